package dfa

import (
	"reflect"
	"slices"
	"testing"

	"lemmata/api"
)

// withRoom is l with spare room behind each list, which holds something.
func withRoom(l []api.State) []api.State {
	var room []api.State
	for _, state := range l {
		free := append(slices.Clone(state.Free), 0, 1)
		state.Free = free[:len(state.Free)]
		room = append(room, state)
	}
	room = append(room, api.State{Hi: 255, Free: []int{0}, End: 1})
	return room[:len(l)]
}

// laidOpen tells all that l holds, spare room too.
func laidOpen(l []api.State) (out []api.State) {
	for _, state := range l[:len(l)+1] {
		state.Free = slices.Clone(state.Free[:cap(state.Free)])
		out = append(out, state)
	}
	return out
}

func TestOfLeavesWhatItWasHanded(t *testing.T) {
	for _, l := range [][]api.State{statesOf(t, "a(b|[c-ex])* [ab]+c? .*"), chain(301), {{Free: []int{5, -1}, Next: 3}}, nil} {
		room := withRoom(l)
		was := laidOpen(room)
		first := Of(room)
		want := slices.Clone(first)
		clear(first[:cap(first)])
		if !reflect.DeepEqual(laidOpen(room), was) {
			t.Errorf("%v: what was handed in was changed", l)
		}
		if !slices.Equal(Of(room), want) || !slices.Equal(Of(l), want) {
			t.Errorf("%v: the same call tells another", l)
		}
	}
}

// What is done to the states behind the call is not to be seen in the rows.
func TestOfKeepsNothing(t *testing.T) {
	l := statesOf(t, "a(b|c)* [ab]+c?")
	rows := Of(l)
	want := slices.Clone(rows)
	for i := range l {
		for k := range l[i].Free {
			l[i].Free[k] = 0
		}
	}
	clear(l)
	if !slices.Equal(rows, want) || !slices.Equal(Of(statesOf(t, "a(b|c)* [ab]+c?")), want) {
		t.Error("the rows went with the states")
	}
}

func TestOfTakesNilAndEmptyAsOne(t *testing.T) {
	l := []api.State{{Lo: 'a', Hi: 'a', Next: 1}, {Lo: 1, End: 1}}
	empty := slices.Clone(l)
	for i := range empty {
		empty[i].Free = []int{}
	}
	if rows := Of(empty); len(rows) != 2 || !slices.Equal(rows, Of(l)) {
		t.Errorf("%d rows", len(rows))
	}
}

func TestLongestLeavesWhatItWasHanded(t *testing.T) {
	l := append(Of(statesOf(t, "a(b|[c-ex])* [ab]+c? (a?b|c)+")), api.Row{End: 5})
	was := slices.Clone(l)
	rows := l[:len(l)-1]
	for _, s := range textsOf("abc", 4) {
		kind, n, ok := Longest(rows, s)
		if again, m, yes := Longest(rows, s); again != kind || m != n || yes != ok {
			t.Errorf("%q: the same call tells another", s)
		}
	}
	if !slices.Equal(l, was) {
		t.Error("what was handed in was changed")
	}
}

// A row that stands in spare room alone is not there.
func TestLongestStaysWithinItsRows(t *testing.T) {
	rows := make([]api.Row, 2)
	rows[0].Next['a'] = 1
	rows[1].End = 3
	if kind, n, ok := Longest(rows[:1], "a"); kind != 0 || n != 0 || ok {
		t.Errorf("%d %d %v", kind, n, ok)
	}
	if _, _, ok := Longest(rows[:0], "a"); ok {
		t.Error("no rows")
	}
}
