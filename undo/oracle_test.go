package undo

import (
	"iter"
	"slices"
	"testing"

	"lemmata/api"
)

// Steps of a run.
const (
	do = iota
	back
	again
)

// line is all states, in one row, and the place of the one that is.
type line struct {
	all []int
	at  int
}

// lineOf lays out what h and now say: what comes again stands behind now, the nearest first.
func lineOf(h Hist, now int) line {
	l := append(slices.Clone(h.Past), now)
	for _, x := range slices.Backward(h.Next) {
		l = append(l, x)
	}
	return line{l, len(h.Past)}
}

func (l line) hist() Hist {
	next := slices.Clone(l.all[l.at+1:])
	slices.Reverse(next)
	return Hist{slices.Clone(l.all[:l.at]), next}
}

// came is the line when a new state comes: all that stood behind is cut off, and a first too many.
func (l line) came(state int) line {
	all := append(slices.Clone(l.all[:l.at+1]), state)
	if l.at+1 > api.MaxUndo {
		all = all[1:]
	}
	return line{all, len(all) - 1}
}

// walked is the line when the place moves, if there is one.
func (l line) walked(by int) (line, bool) {
	to := l.at + by
	return line{l.all, to}, to >= 0 && to < len(l.all)
}

func same(a, b Hist) bool {
	return slices.Equal(a.Past, b.Past) && slices.Equal(a.Next, b.Next)
}

// stepped holds a step against that of the line; it hands on what was told.
func stepped(t *testing.T, h Hist, now, step, state int) (Hist, int) {
	t.Helper()
	l := lineOf(h, now)
	if step == do {
		g := Do(h, now)
		if want := l.came(state).hist(); !same(g, want) {
			t.Fatalf("Do of %v, %d: %v, not %v", h, now, g, want)
		}
		return g, state
	}
	name, move, by := "Undo", Undo, -1
	if step == again {
		name, move, by = "Redo", Redo, 1
	}
	l, there := l.walked(by)
	g, was, ok := move(h, now)
	if !there {
		if !same(g, h) || was != 0 || ok {
			t.Fatalf("%s of %v, %d: %v %d %v, not a no", name, h, now, g, was, ok)
		}
		return h, now
	}
	if want := l.hist(); !same(g, want) || was != l.all[l.at] || !ok {
		t.Fatalf("%s of %v, %d: %v %d %v, not %v %d", name, h, now, g, was, ok, want, l.all[l.at])
	}
	return g, was
}

// numbered tells so many numbers, from that one on.
func numbered(n, from int) (l []int) {
	for i := range n {
		l = append(l, from+i)
	}
	return l
}

// hists tells one of each length of both lists, all of its numbers others.
func hists(past, next int) iter.Seq[Hist] {
	return func(yield func(Hist) bool) {
		for p := range past + 1 {
			for n := range next + 1 {
				if !yield(Hist{numbered(p, 100), numbered(n, 200)}) {
					return
				}
			}
		}
	}
}
