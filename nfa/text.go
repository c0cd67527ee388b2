package nfa

import (
	"slices"

	"lemmata/api"
	"lemmata/rex"
)

// How loosely a pattern's parts hold together: a looser one needs brackets where a tighter one is asked for.
const (
	repeated = iota // an atom, with the signs behind it
	joined
	parted
)

func looseness(op int) int {
	switch op {
	case api.Join:
		return joined
	case api.Alt:
		return parted
	}
	return repeated
}

// text tells the shortest text that may say n. (If that is none of rex, none is.)
func (n node) text() string {
	switch n.item.Op {
	case api.Class:
		return classText(n.item)
	case api.Join:
		return n.parts[0].within(joined) + n.parts[1].within(repeated)
	case api.Alt:
		return n.parts[0].within(parted) + "|" + n.parts[1].within(joined)
	case api.Star:
		return n.parts[0].within(repeated) + "*"
	case api.Plus:
		return n.parts[0].within(repeated) + "+"
	case api.Maybe:
		return n.parts[0].within(repeated) + "?"
	}
	return ""
}

func (n node) within(most int) string {
	if looseness(n.item.Op) > most {
		return "(" + n.text() + ")"
	}
	return n.text()
}

func classText(class api.Item) string {
	if len(class.L) == 1 {
		c := string([]byte{class.L[0].Lo})
		for _, s := range []string{".", c, `\` + c} {
			if says(s, []api.Item{class}) {
				return s
			}
		}
	}
	s := ""
	for _, r := range class.L {
		s += rangeText(r)
	}
	return "[" + s + "]"
}

func rangeText(r api.Range) string {
	if r.Lo == r.Hi {
		return byteText(r.Lo)
	}
	return byteText(r.Lo) + "-" + byteText(r.Hi)
}

// byteText leaves it to rex which bytes need a backslash in square brackets.
func byteText(c byte) string {
	s := string([]byte{c})
	if says("["+s+"]", []api.Item{{Op: api.Class, L: []api.Range{{Lo: c, Hi: c}}}}) {
		return s
	}
	return `\` + s
}

// says tells whether s is the pattern of those items.
func says(s string, items []api.Item) bool {
	l, ok := rex.Parse(s)
	return ok && slices.EqualFunc(l, items, sameItem)
}

func sameItem(a, b api.Item) bool {
	return a.Op == b.Op && slices.Equal(a.L, b.L)
}
