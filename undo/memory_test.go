package undo

import (
	"slices"
	"testing"
)

// roomy is a history whose lists have spare room behind them, which holds more: so many of the one, so many of the other.
func roomy(past, next int) Hist {
	return Hist{numbered(past+3, 1)[:past], numbered(next+3, 51)[:next]}
}

func wholeOf(l []int) []int {
	return l[:cap(l)]
}

func wholly(a, b Hist) bool {
	return same(a, b) && slices.Equal(wholeOf(a.Past), wholeOf(b.Past)) && slices.Equal(wholeOf(a.Next), wholeOf(b.Next))
}

type step struct {
	name string
	take func(h Hist, now int) (Hist, int, bool)
}

func steps() []step {
	return []step{
		{"Do", func(h Hist, now int) (Hist, int, bool) { return Do(h, now), 0, true }},
		{"Undo", Undo},
		{"Redo", Redo},
	}
}

func TestStepsLeaveAndKeepNothing(t *testing.T) {
	for _, s := range steps() {
		for _, past := range []int{0, 1, 2, 19, 20, 21} {
			for _, next := range []int{0, 1, 2, 19, 20, 21} {
				h, was := roomy(past, next), roomy(past, next)
				g, x, ok := s.take(h, 7)
				told := Hist{slices.Clone(g.Past), slices.Clone(g.Next)}
				if !wholly(h, was) {
					t.Fatalf("%s of %d, %d: what was handed in was changed: %v", s.name, past, next, h)
				}
				clear(wholeOf(h.Past))
				clear(wholeOf(h.Next))
				if !same(g, told) {
					t.Errorf("%s of %d, %d: what was handed in was kept", s.name, past, next)
				}
				h = roomy(past, next)
				clear(wholeOf(g.Past))
				if !slices.Equal(g.Next, told.Next) {
					t.Errorf("%s of %d, %d: both lists are one", s.name, past, next)
				}
				clear(wholeOf(g.Next))
				if again, y, yes := s.take(h, 7); !same(again, told) || y != x || yes != ok || !wholly(h, was) {
					t.Errorf("%s of %d, %d: the same call tells another: %v %d %v", s.name, past, next, again, y, yes)
				}
			}
		}
	}
}

// What stands in spare room alone is not there.
func TestStepsWithinTheLists(t *testing.T) {
	h := roomy(0, 0)
	if g, was, ok := Undo(h, 7); !same(g, Hist{}) || was != 0 || ok {
		t.Errorf("%v %d %v", g, was, ok)
	}
	if g, next, ok := Redo(h, 7); !same(g, Hist{}) || next != 0 || ok {
		t.Errorf("%v %d %v", g, next, ok)
	}
	if g := Do(h, 7); !same(g, Hist{Past: []int{7}}) {
		t.Errorf("%v", g)
	}
	h = roomy(2, 1)
	if g, was, ok := Undo(h, 7); !same(g, Hist{[]int{1}, []int{51, 7}}) || was != 2 || !ok {
		t.Errorf("%v %d %v", g, was, ok)
	}
	if g, next, ok := Redo(h, 7); !same(g, Hist{[]int{1, 2, 7}, nil}) || next != 51 || !ok {
		t.Errorf("%v %d %v", g, next, ok)
	}
}

// Both lists may stand in one memory, or be one.
func TestListsThatShare(t *testing.T) {
	for _, s := range steps() {
		l := numbered(6, 1)
		for _, h := range []Hist{{l[:3], l[3:]}, {l[3:], l[:3]}, {l, l}, {l[:4], l[1:5]}, {l[:0], l}, {l, l[:0]}} {
			apart := Hist{slices.Clone(h.Past), slices.Clone(h.Next)}
			g, x, ok := s.take(h, 7)
			want, y, yes := s.take(apart, 7)
			if !same(g, want) || x != y || ok != yes || !slices.Equal(l, numbered(6, 1)) {
				t.Errorf("%s of %v: %v %d %v, not %v %d %v", s.name, h, g, x, ok, want, y, yes)
			}
		}
	}
}

// Two steps from one history do not touch each other.
func TestTwoStepsFromOne(t *testing.T) {
	h := Do(Do(Hist{}, 1), 2)
	one, two := Do(h, 3), Do(h, 4)
	back, _, _ := Undo(h, 5)
	on, _, _ := Redo(back, 6)
	if !same(one, Hist{Past: []int{1, 2, 3}}) || !same(two, Hist{Past: []int{1, 2, 4}}) || !same(back, Hist{[]int{1}, []int{5}}) || !same(on, Hist{Past: []int{1, 6}}) || !same(h, Hist{Past: []int{1, 2}}) {
		t.Errorf("%v %v %v %v %v", one, two, back, on, h)
	}
}
