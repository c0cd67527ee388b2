package dfa

import (
	"math/rand"
	"slices"
	"strings"
	"testing"

	"lemmata/api"
	"lemmata/nfa"
	"lemmata/rex"
)

// marks tells of each state, by a letter, whether it is of a set: y or n.
type marks string

func (m marks) with(at int) marks {
	if at < 0 || at >= len(m) {
		return m
	}
	return m[:at] + "y" + m[at+1:]
}

// closed tries all that goes with nothing, again and again, until no state is new.
func (m marks) closed(l []api.State) marks {
	for before := marks(""); before != m; {
		before = m
		for i, state := range l {
			if m[i] == 'n' {
				continue
			}
			for _, next := range state.Free {
				m = m.with(next)
			}
		}
	}
	return m
}

func (m marks) after(l []api.State, c int) marks {
	then := none(l)
	for i, state := range l {
		if m[i] == 'y' && int(state.Lo) <= c && c <= int(state.Hi) {
			then = then.with(state.Next)
		}
	}
	return then.closed(l)
}

func (m marks) leastEnd(l []api.State) int {
	var ends []int
	for i, state := range l {
		if m[i] == 'y' && state.End != 0 {
			ends = append(ends, state.End)
		}
	}
	if len(ends) == 0 {
		return 0
	}
	return slices.Min(ends)
}

func none(l []api.State) marks {
	return marks(strings.Repeat("n", len(l)))
}

// rowsBy goes through all sets that come up, and all bytes of each; it stops at no number of rows.
func rowsBy(l []api.State) (rows []api.Row) {
	if len(l) == 0 {
		return nil
	}
	sets := []marks{none(l).with(0).closed(l)}
	for at := 0; at < len(sets); at++ {
		row := api.Row{End: sets[at].leastEnd(l)}
		for c := range 256 {
			then := sets[at].after(l, c)
			next := slices.Index(sets, then)
			if next < 0 && then != none(l) {
				next = len(sets)
				sets = append(sets, then)
			}
			row.Next[c] = next
		}
		rows = append(rows, row)
	}
	return rows
}

// longestBy goes the way of each front of s from row 0 on, that of the whole of s first.
func longestBy(l []api.Row, s string) (kind, n int, ok bool) {
	there := func(at int) bool { return 0 <= at && at < len(l) }
	for n := len(s); n > 0; n-- {
		at := 0
		for i := 0; i < n && there(at); i++ {
			at = l[at].Next[s[i]]
		}
		if there(at) && l[at].End != 0 {
			return l[at].End - 1, n, true
		}
	}
	return 0, 0, false
}

// textsOf tells all texts of at most n of those bytes.
func textsOf(of string, n int) []string {
	all, longest := []string{""}, []string{""}
	for range n {
		var longer []string
		for _, s := range longest {
			for _, c := range []byte(of) {
				longer = append(longer, s+string([]byte{c}))
			}
		}
		all, longest = append(all, longer...), longer
	}
	return all
}

// statesOf tells nfa's states of patterns that are parted by spaces.
func statesOf(t *testing.T, pats string) []api.State {
	t.Helper()
	var items [][]api.Item
	for _, s := range strings.Fields(pats) {
		l, ok := rex.Parse(s)
		if !ok {
			t.Fatalf("%q is no pattern", s)
		}
		items = append(items, l)
	}
	l := nfa.Of(items)
	if len(l) == 0 {
		t.Fatalf("%q has no states", pats)
	}
	return l
}

// anyStates tells fewer than most states, of those bytes, with places that there are not among them.
func anyStates(chance *rand.Rand, of string, most int) []api.State {
	l := make([]api.State, chance.Intn(most))
	for i := range l {
		l[i].Lo, l[i].Hi = of[chance.Intn(len(of))], of[chance.Intn(len(of))]
		l[i].Next = chance.Intn(len(l)+2) - 1
		for range chance.Intn(3) {
			l[i].Free = append(l[i].Free, chance.Intn(len(l)+2)-1)
		}
		l[i].End = max(0, chance.Intn(6)-2)
	}
	return l
}

// chain tells n states that come one behind the other with an a: as many rows.
func chain(n int) []api.State {
	l := make([]api.State, n)
	for i := range l {
		l[i] = api.State{Lo: 'a', Hi: 'a', Next: i + 1}
	}
	l[n-1].End = 1
	return l
}
