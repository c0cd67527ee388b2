package dfa

import (
	"math"
	"slices"
	"testing"
)

func draftOf[T ~int](bound int, members ...T) *draft[T] {
	d := newDraft[T](bound)
	for _, x := range members {
		d.add(x)
	}
	return d
}

func TestDraft(t *testing.T) {
	type number int
	d := draftOf[number](9, 8, 0, 8, -1, 9, 15, 16, 7, 0, math.MaxInt, math.MinInt, 8)
	if !slices.Equal(d.members, []number{8, 0, 7}) {
		t.Fatalf("%v", d.members)
	}
	for x := range number(9) {
		if d.has(x) != slices.Contains(d.members, x) {
			t.Errorf("%d: %v", x, d.has(x))
		}
	}
	if members := d.set().members(); !slices.Equal(members, []number{0, 7, 8}) {
		t.Errorf("%v", members)
	}
}

func TestDraftOfNothing(t *testing.T) {
	for bound := range 20 {
		d := draftOf(bound, -1, bound, bound+1)
		if len(d.members) != 0 || len(d.set().members()) != 0 {
			t.Errorf("%d: %v", bound, d.members)
		}
	}
}

// Of all sets of a few numbers, in any order: those that hold the same are the same key, and no others are.
func TestSetsAsKeys(t *testing.T) {
	const bound = 10
	var r = newRanks[set[int]]()
	for bits := range 1 << bound {
		up, down := newDraft[int](bound), newDraft[int](bound)
		for x := range bound {
			if bits>>x&1 == 1 {
				up.add(x)
			}
			if y := bound - 1 - x; bits>>y&1 == 1 {
				down.add(y)
			}
		}
		if up.set() != down.set() || r.rank(up.set()) != bits || r.rank(down.set()) != bits {
			t.Fatalf("%v", up.members)
		}
		if !slices.Equal(up.set().members(), up.members) {
			t.Fatalf("%v: %v", up.members, up.set().members())
		}
	}
}

// A set stays as it was when its draft grows on.
func TestSetStays(t *testing.T) {
	d := draftOf(12, 3)
	s := d.set()
	d.add(4)
	if !slices.Equal(s.members(), []int{3}) || !slices.Equal(d.set().members(), []int{3, 4}) {
		t.Errorf("%v", s.members())
	}
}

func TestRanks(t *testing.T) {
	type pair struct{ a, b int }
	r := newRanks[pair]()
	for i, x := range []struct {
		key  pair
		rank int
	}{{pair{5, 1}, 0}, {pair{1, 5}, 1}, {pair{5, 1}, 0}, {pair{}, 2}, {pair{1, 5}, 1}, {pair{}, 2}, {pair{-1, 0}, 3}} {
		if rank := r.rank(x.key); rank != x.rank {
			t.Errorf("%d: %d", i, rank)
		}
	}
	if !slices.Equal(r.keys, []pair{{5, 1}, {1, 5}, {0, 0}, {-1, 0}}) {
		t.Errorf("%v", r.keys)
	}
}
