package nfa

import (
	"math"
	"slices"
	"testing"
)

func TestSet(t *testing.T) {
	type number int
	s := newSet[number](5)
	for range 3 {
		for _, x := range []number{3, 0, 3, -1, 5, 4, 0, math.MaxInt, math.MinInt, 4} {
			s.add(x)
		}
		if !slices.Equal(s.members, []number{3, 0, 4}) {
			t.Fatalf("%v", s.members)
		}
		for x := range number(5) {
			if s.has(x) != slices.Contains(s.members, x) {
				t.Errorf("%d: %v", x, s.has(x))
			}
		}
		s.empty()
		if len(s.members) != 0 || s.has(3) || s.has(0) {
			t.Fatalf("it is not empty: %v", s.members)
		}
	}
}

// What was a member once leaves its place behind, where another stands now.
func TestSetThatWasEmptied(t *testing.T) {
	s := newSet[int](4)
	for _, round := range [][]int{{0, 1, 2}, {2, 0}, {1}, {3, 2, 1, 0}, {}, {0, 3}} {
		s.empty()
		for _, x := range round {
			s.add(x)
		}
		if !slices.Equal(s.members, round) {
			t.Errorf("%v: %v", round, s.members)
		}
		for x := range 4 {
			if s.has(x) != slices.Contains(round, x) {
				t.Errorf("%v: %d: %v", round, x, s.has(x))
			}
		}
	}
}

func TestSetOfNothing(t *testing.T) {
	s := newSet[int](0)
	s.add(0)
	s.empty()
	s.add(-1)
	if len(s.members) != 0 {
		t.Errorf("%v", s.members)
	}
}
