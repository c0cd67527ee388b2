package undo

import (
	"math"
	"math/rand"
	"slices"
	"testing"

	"lemmata/api"
)

func TestDo(t *testing.T) {
	full := numbered(api.MaxUndo, 1)
	for _, x := range []struct {
		h    Hist
		now  int
		past []int
	}{
		{Hist{}, 7, []int{7}}, {Hist{Past: []int{1}}, 7, []int{1, 7}}, {Hist{Past: []int{1, 2, 3}}, 7, []int{1, 2, 3, 7}},
		// what came again does so no more
		{Hist{Next: []int{9}}, 7, []int{7}}, {Hist{[]int{1}, []int{9, 8}}, 7, []int{1, 7}}, {Hist{nil, full}, 7, []int{7}},
		// any number is one, and one that is there already comes once more
		{Hist{}, 0, []int{0}}, {Hist{Past: []int{0, 0}}, 0, []int{0, 0, 0}}, {Hist{Past: []int{3, 5}}, 3, []int{3, 5, 3}}, {Hist{Past: []int{5}}, 5, []int{5, 5}},
		{Hist{Past: []int{-1, math.MaxInt}}, math.MinInt, []int{-1, math.MaxInt, math.MinInt}},
		// as many as there may be, and one more
		{Hist{Past: full[2:]}, 7, append(slices.Clone(full[2:]), 7)}, {Hist{Past: full[1:]}, 7, append(slices.Clone(full[1:]), 7)},
		{Hist{Past: full}, 7, append(slices.Clone(full[1:]), 7)}, {Hist{full, full}, 7, append(slices.Clone(full[1:]), 7)},
	} {
		if g := Do(x.h, x.now); !same(g, Hist{Past: x.past}) {
			t.Errorf("%v, %d: %v, not %v", x.h, x.now, g, x.past)
		}
	}
}

func TestUndoAndRedo(t *testing.T) {
	for _, x := range []struct {
		from, to   []int
		now        int
		rest, more []int
		told       int
	}{
		{[]int{4}, nil, 7, nil, []int{7}, 4}, {[]int{4, 5}, nil, 7, []int{4}, []int{7}, 5}, {[]int{4, 5, 6}, []int{9, 8}, 7, []int{4, 5}, []int{9, 8, 7}, 6},
		// any number is one, 0 too, and one may be there more than once
		{[]int{0}, []int{0}, 0, nil, []int{0, 0}, 0}, {[]int{7, 7}, []int{7}, 7, []int{7}, []int{7, 7}, 7}, {[]int{1, 2, 1}, nil, 2, []int{1, 2}, []int{2}, 1},
		{[]int{-1, math.MinInt}, []int{math.MaxInt}, -2, []int{-1}, []int{math.MaxInt, -2}, math.MinInt}, {[]int{math.MaxInt}, nil, math.MinInt, nil, []int{math.MinInt}, math.MaxInt},
		// none goes but the one that is told
		{numbered(20, 1), nil, 7, numbered(19, 1), []int{7}, 20}, {[]int{4}, numbered(19, 1), 20, nil, numbered(20, 1), 4},
		{numbered(20, 1), numbered(20, 51), 71, numbered(19, 1), numbered(21, 51), 20},
	} {
		if g, was, ok := Undo(Hist{x.from, x.to}, x.now); !same(g, Hist{x.rest, x.more}) || was != x.told || !ok {
			t.Errorf("Undo of %v %v, %d: %v %d %v", x.from, x.to, x.now, g, was, ok)
		}
		if g, next, ok := Redo(Hist{x.to, x.from}, x.now); !same(g, Hist{x.more, x.rest}) || next != x.told || !ok {
			t.Errorf("Redo of %v %v, %d: %v %d %v", x.to, x.from, x.now, g, next, ok)
		}
	}
}

// With a no all is as it was, and no number is told.
func TestNothingToUndoOrRedo(t *testing.T) {
	for _, other := range [][]int{nil, {}, {0}, {5}, {5, 6, 7}, numbered(20, 1), numbered(30, 1)} {
		for _, now := range []int{math.MinInt, -1, 0, 1, 5, math.MaxInt} {
			for _, none := range [][]int{nil, {}, numbered(2, 1)[:0]} {
				if g, was, ok := Undo(Hist{none, other}, now); !same(g, Hist{nil, other}) || was != 0 || ok {
					t.Errorf("Undo of nothing, %v, %d: %v %d %v", other, now, g, was, ok)
				}
				if g, next, ok := Redo(Hist{other, none}, now); !same(g, Hist{other, nil}) || next != 0 || ok {
					t.Errorf("Redo of %v, nothing, %d: %v %d %v", other, now, g, next, ok)
				}
			}
		}
	}
}

func TestRedoBehindUndoIsAsItWas(t *testing.T) {
	for h := range hists(api.MaxUndo+2, api.MaxUndo+2) {
		for _, now := range []int{-3, 0, 7, 100, 200} {
			if g, was, ok := Undo(h, now); ok {
				if f, next, yes := Redo(g, was); !same(f, h) || next != now || !yes {
					t.Errorf("%v, %d: %v %d %v", h, now, f, next, yes)
				}
			}
			if g, next, ok := Redo(h, now); ok {
				if f, was, yes := Undo(g, next); !same(f, h) || was != now || !yes {
					t.Errorf("%v, %d: Undo behind Redo: %v %d %v", h, now, f, was, yes)
				}
			}
		}
	}
}

func TestUndoBehindDoIsIt(t *testing.T) {
	for h := range hists(api.MaxUndo, 3) {
		g, was, ok := Undo(Do(h, 7), 8)
		kept := h.Past[max(len(h.Past)-api.MaxUndo+1, 0):]
		if !same(g, Hist{kept, []int{8}}) || was != 7 || !ok {
			t.Errorf("%v: %v %d %v", h, g, was, ok)
		}
	}
}

// Each step of lists of all lengths that there may be, and of some beyond.
func TestStepsOfAllLengths(t *testing.T) {
	for h := range hists(api.MaxUndo+5, api.MaxUndo+5) {
		for step := range again + 1 {
			stepped(t, h, 7, step, 8)
		}
	}
}

// All short runs from the beginning: each state has a number of its own.
func TestAllShortRuns(t *testing.T) {
	var from func(h Hist, now, state, left int)
	from = func(h Hist, now, state, left int) {
		if left == 0 {
			return
		}
		for step := range again + 1 {
			g, is := stepped(t, h, now, step, state)
			from(g, is, state+1, left-1)
		}
	}
	from(Hist{}, 0, 1, 10)
}

func TestLongRuns(t *testing.T) {
	chance := rand.New(rand.NewSource(10))
	for _, steps := range [][]int{{do, back, again}, {do, do, do, back, again}, {do, back, back, back, again, again}, {do, do, do, do, do, do, back, again, again}} {
		h, now := Hist{}, 0
		for state := range 5000 {
			if h, now = stepped(t, h, now, steps[chance.Intn(len(steps))], state); len(h.Past)+len(h.Next) > api.MaxUndo {
				t.Fatalf("more than MaxUndo: %v", h)
			}
		}
	}
}

// All that is kept is undone, step by step, and done again.
func TestAllTheWayBackAndOn(t *testing.T) {
	for n := range 2 * api.MaxUndo {
		h, now := Hist{}, 0
		for range n {
			h, now = stepped(t, h, now, do, now+1)
		}
		kept := min(n, api.MaxUndo)
		for range n + 2 {
			h, now = stepped(t, h, now, back, 0)
		}
		if now != n-kept || len(h.Past) != 0 || len(h.Next) != kept {
			t.Errorf("%d: back to %d: %v", n, now, h)
		}
		for range n + 2 {
			h, now = stepped(t, h, now, again, 0)
		}
		if now != n || len(h.Past) != kept || len(h.Next) != 0 {
			t.Errorf("%d: on to %d: %v", n, now, h)
		}
	}
}

// Of lists that are longer than they may be just one number goes.
func TestBeyondMaxUndo(t *testing.T) {
	for _, n := range []int{21, 25, 1000, 100000} {
		h := Hist{numbered(n, 1), numbered(n, -n)}
		if g := Do(h, n+1); !same(g, Hist{Past: numbered(n, 2)}) {
			t.Errorf("%d: Do: %d", n, len(g.Past))
		}
		if g, was, ok := Undo(h, 0); !same(g, Hist{numbered(n-1, 1), numbered(n+1, -n)}) || was != n || !ok {
			t.Errorf("%d: Undo: %d %v", n, was, ok)
		}
		if g, next, ok := Redo(h, n+1); !same(g, Hist{numbered(n+1, 1), numbered(n-1, -n)}) || next != -1 || !ok {
			t.Errorf("%d: Redo: %d %v", n, next, ok)
		}
	}
}
