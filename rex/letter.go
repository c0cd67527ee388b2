package rex

import (
	"iter"
	"strings"
)

// The bytes that a pattern may be of, and that a dot stands for.
const (
	lowest  = 32
	highest = 126
)

// The bytes that stand for themselves only behind a backslash; no others may stand behind one.
const (
	marks      = `()[]|*+?.\`
	classMarks = `]-\`
)

// letter is a byte of a pattern, and whether a backslash makes it stand for itself.
type letter struct {
	c       byte
	escaped bool
}

// letters tells the bytes of s one by one, without the backslashes that stand ahead of another byte. One at the end is told: it stands ahead of nothing.
func letters(s string) iter.Seq[letter] {
	return func(yield func(letter) bool) {
		escaped := false
		for i := range len(s) {
			if s[i] == '\\' && !escaped && i+1 < len(s) {
				escaped = true
				continue
			}
			if !yield(letter{s[i], escaped}) {
				return
			}
			escaped = false
		}
	}
}

// standsForItself tells whether l is a byte, where those of special are none without a backslash.
func (l letter) standsForItself(special string) bool {
	isSpecial := strings.IndexByte(special, l.c) >= 0
	return lowest <= l.c && l.c <= highest && isSpecial == l.escaped
}
