package nfa

import (
	"reflect"
	"slices"
	"testing"

	"lemmata/api"
)

// withRoom is pats with spare room behind each list, which holds something.
func withRoom(pats [][]api.Item) (room [][]api.Item) {
	spare := api.Item{Op: 99, L: []api.Range{{Lo: 9, Hi: 9}}}
	for _, items := range pats {
		var list []api.Item
		for _, item := range items {
			l := append(slices.Clone(item.L), api.Range{Lo: 8, Hi: 8})
			list = append(list, api.Item{Op: item.Op, L: l[:len(item.L)]})
		}
		list = append(list, spare)
		room = append(room, list[:len(items)])
	}
	return append(room, []api.Item{spare})[:len(pats)]
}

// laidOpen tells all that pats holds, spare room too.
func laidOpen(pats [][]api.Item) (out [][]api.Item) {
	for _, items := range pats[:len(pats)+1] {
		var list []api.Item
		for _, item := range items[:cap(items)] {
			list = append(list, api.Item{Op: item.Op, L: slices.Clone(item.L[:cap(item.L)])})
		}
		out = append(out, list)
	}
	return out
}

func TestOfLeavesWhatItWasHanded(t *testing.T) {
	for _, pats := range [][][]api.Item{patterns(t, "a(b|[c-ex])*", "[ab]+c?", ".*"), append(patterns(t, "a", "[b-d]"), nil)} {
		room := withRoom(pats)
		was := laidOpen(room)
		l := Of(room)
		scribble(l)
		if !reflect.DeepEqual(laidOpen(room), was) {
			t.Errorf("%v: what was handed in was changed", pats)
		}
		if !reflect.DeepEqual(Of(room), Of(pats)) {
			t.Errorf("%v: the same call tells another", pats)
		}
	}
}

// scribble writes over all memory that l reaches, spare room too.
func scribble(l []api.State) {
	for i := range l {
		free := l[i].Free[:cap(l[i].Free)]
		for k := range free {
			free[k] = -77
		}
	}
	clear(l[:cap(l)])
}

func TestOfSharesNothingWithinItsAnswer(t *testing.T) {
	pats := patterns(t, "a(b|[c-ex])*", "[ab]+c?", "(a?b|c)+")
	want := Of(pats)
	for i := range want {
		l := Of(pats)
		free := l[i].Free[:cap(l[i].Free)]
		for k := range free {
			free[k] = -77
		}
		l[i].Free = want[i].Free
		if !reflect.DeepEqual(l, want) {
			t.Errorf("state %d shares memory with another", i)
		}
	}
}

func TestOfTakesNilAndEmptyAsOne(t *testing.T) {
	pats := patterns(t, "a(b|c)*d+e?")
	empty := withRoom(pats)
	for i := range empty[0] {
		if empty[0][i].L == nil {
			t.Fatal("the lists are to be empty, not nil")
		}
	}
	if l := Of(empty); len(l) == 0 || !reflect.DeepEqual(l, Of(pats)) {
		t.Errorf("%v", l)
	}
	own := []api.State{{Lo: 'a', Hi: 'a', Next: 1, Free: []int{}}, {Lo: 1, Free: []int{}, End: 1}}
	if kind, n, ok := Longest(own, "a"); kind != 0 || n != 1 || !ok {
		t.Errorf("%d %d %v", kind, n, ok)
	}
}

func TestLongestLeavesWhatItWasHanded(t *testing.T) {
	pats := patterns(t, "a(b|[c-ex])*", "[ab]+c?", "(a?b|c)+")
	l, was := Of(pats), Of(pats)
	for _, s := range textsOf("abc", 4) {
		kind, n, ok := Longest(l, s)
		if again, m, yes := Longest(l, s); again != kind || m != n || yes != ok {
			t.Errorf("%q: the same call tells another", s)
		}
	}
	if !reflect.DeepEqual(l, was) {
		t.Error("what was handed in was changed")
	}
}
