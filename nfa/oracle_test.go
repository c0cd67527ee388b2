package nfa

import (
	"slices"
	"strings"

	"lemmata/api"
)

// spans tells of each place of a text, as bits, the places at which something that begins there may end.
type spans []uint64

func spansOf(s string, ends func(from int) uint64) spans {
	out := make(spans, len(s)+1)
	for i := range out {
		out[i] = ends(i)
	}
	return out
}

func (a spans) or(b spans) spans {
	out := slices.Clone(a)
	for i := range out {
		out[i] |= b[i]
	}
	return out
}

func (a spans) then(b spans) spans {
	out := make(spans, len(a))
	for i := range out {
		for k := range b {
			if a[i]>>k&1 == 1 {
				out[i] |= b[k]
			}
		}
	}
	return out
}

// pieces tells which pieces of s the pattern is, item by item, without any states.
func pieces(items []api.Item, s string) spans {
	nothing := spansOf(s, func(from int) uint64 { return 1 << from })
	var stack []spans
	for _, item := range items {
		last := len(stack) - 1
		switch item.Op {
		case api.Class:
			stack = append(stack, spansOf(s, func(from int) uint64 { return inClass(item.L, s, from) }))
		case api.Join:
			stack = append(stack[:last-1], stack[last-1].then(stack[last]))
		case api.Alt:
			stack = append(stack[:last-1], stack[last-1].or(stack[last]))
		case api.Maybe:
			stack[last] = stack[last].or(nothing)
		case api.Star, api.Plus:
			some := stack[last]
			for range len(s) {
				some = some.or(some.then(stack[last]))
			}
			if item.Op == api.Star {
				some = some.or(nothing)
			}
			stack[last] = some
		}
	}
	return stack[0]
}

func inClass(l []api.Range, s string, from int) uint64 {
	for _, r := range l {
		if from < len(s) && r.Lo <= s[from] && s[from] <= r.Hi {
			return 1 << (from + 1)
		}
	}
	return 0
}

// kindsOf tells the Ends of those patterns that are s, from its first byte to its last.
func kindsOf(pats [][]api.Item, s string) (ends []int) {
	for k, items := range pats {
		if pieces(items, s)[0]>>len(s)&1 == 1 {
			ends = append(ends, k+1)
		}
	}
	return ends
}

// endsOf tells the Ends, rising, that s leads to from state 0 on: it tries all steps again and again, until no state is new at any place of s.
func endsOf(l []api.State, s string) (ends []int) {
	type spot struct{ state, at int }
	reached := map[spot]int{}
	mark := func(state, at int) {
		if 0 <= state && state < len(l) {
			reached[spot{state, at}] = 1
		}
	}
	mark(0, 0)
	for before := 0; before < len(reached); {
		before = len(reached)
		for at := range len(s) + 1 {
			for i, state := range l {
				if reached[spot{i, at}] == 0 {
					continue
				}
				for _, next := range state.Free {
					mark(next, at)
				}
				if at < len(s) && state.Lo <= s[at] && s[at] <= state.Hi {
					mark(state.Next, at+1)
				}
			}
		}
	}
	for i, state := range l {
		if reached[spot{i, len(s)}] == 1 && state.End != 0 {
			ends = append(ends, state.End)
		}
	}
	slices.Sort(ends)
	return slices.Compact(ends)
}

// longestBy tries all fronts, the whole of s first.
func longestBy(s string, ends func(front string) []int) (kind, n int, ok bool) {
	for n := len(s); n > 0; n-- {
		if l := ends(s[:n]); len(l) > 0 {
			return slices.Min(l) - 1, n, true
		}
	}
	return 0, 0, false
}

// textsOf tells all texts of at most n of those bytes.
func textsOf(of string, n int) []string {
	all, longest := []string{""}, []string{""}
	for range n {
		var longer []string
		for _, s := range longest {
			for _, c := range []byte(of) {
				longer = append(longer, s+string([]byte{c}))
			}
		}
		all, longest = append(all, longer...), longer
	}
	return all
}

// measured is a part of a pattern: how many bytes its shortest text has, and whether that has a bar, or several atoms, outside all brackets.
type measured struct {
	bytes       int
	bar, joined bool
}

func (m measured) in(bar, joined bool) int {
	if m.bar && !bar || m.joined && !joined {
		return m.bytes + 2
	}
	return m.bytes
}

// shortest tells how many bytes the shortest text of a pattern has, by the marks that need a backslash.
func shortest(items []api.Item) int {
	var stack []measured
	for _, item := range items {
		last := len(stack) - 1
		switch item.Op {
		case api.Class:
			stack = append(stack, measured{bytes: shortestClass(item.L)})
		case api.Join:
			both := stack[last-1].in(false, true) + stack[last].in(false, false)
			stack = append(stack[:last-1], measured{bytes: both, joined: true})
		case api.Alt:
			both := stack[last-1].in(true, true) + 1 + stack[last].in(false, true)
			stack = append(stack[:last-1], measured{bytes: both, bar: true})
		default:
			stack[last] = measured{bytes: stack[last].in(false, false) + 1}
		}
	}
	return stack[0].bytes
}

func shortestClass(l []api.Range) int {
	width := func(c byte, marks string) int {
		if strings.IndexByte(marks, c) >= 0 {
			return 2
		}
		return 1
	}
	if len(l) == 1 && l[0] == (api.Range{Lo: 32, Hi: 126}) {
		return 1
	}
	if len(l) == 1 && l[0].Lo == l[0].Hi {
		return width(l[0].Lo, `()[]|*+?.\`)
	}
	n := 2
	for _, r := range l {
		n += width(r.Lo, `]-\`)
		if r.Lo < r.Hi {
			n += 1 + width(r.Hi, `]-\`)
		}
	}
	return n
}
