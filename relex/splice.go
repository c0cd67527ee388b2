package relex

import (
	"strings"

	"lemmata/api"
)

// within tells whether n bytes at that place are there, of so many.
func within(at, n, of int) bool {
	// at and n together may be beyond an int. What is left from at on is not: it is below 0 where at is beyond all.
	return at >= 0 && n >= 0 && n <= of-at
}

// spliced takes a splice that is within s.
func spliced(s string, c api.Splice) string {
	// A sum of strings of which all but one are empty is that one itself, no new memory.
	var t strings.Builder
	t.WriteString(s[:c.At])
	t.WriteString(c.Put)
	t.WriteString(s[c.At+c.N:])
	return t.String()
}
