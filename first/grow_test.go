package first

import (
	"slices"
	"testing"
)

// few is a set of numbers below 8, as bits.
type few uint8

func (s few) with(more few) few { return s | more }

func TestAdd(t *testing.T) {
	l := growing[few]{sets: []few{1, 0, 6}}
	for i, x := range []struct {
		nt   int
		more few
		want []few
		grew bool
	}{
		{0, 0, []few{1, 0, 6}, false}, {0, 1, []few{1, 0, 6}, false}, {2, 2, []few{1, 0, 6}, false}, {1, 0, []few{1, 0, 6}, false},
		{1, 8, []few{1, 8, 6}, true}, {0, 3, []few{3, 8, 6}, true}, {2, 7, []few{3, 8, 7}, true}, {2, 7, []few{3, 8, 7}, false},
	} {
		l.grown = false
		if l.add(x.nt, x.more); !slices.Equal(l.sets, x.want) || l.grown != x.grew {
			t.Errorf("%d: %v, %v", i, l.sets, l.grown)
		}
		l.grown = true
		if l.add(x.nt, x.more); !l.grown {
			t.Errorf("%d: it is forgotten that something grew", i)
		}
	}
}

func TestLeast(t *testing.T) {
	rounds := 0
	got := least(4, func(l *growing[few]) {
		rounds++
		// From the last to the first: a step a round.
		for nt := range 3 {
			l.add(nt, l.sets[nt+1])
		}
		l.add(3, 4)
		l.add(0, l.sets[0]&4>>1)
	})
	if !slices.Equal(got, []few{4 | 2, 4, 4, 4}) && !slices.Equal(got, []few{4, 4, 4, 4}) || rounds < 5 {
		t.Errorf("%v after %d rounds", got, rounds)
	}
	if l := least(3, func(*growing[few]) {}); !slices.Equal(l, make([]few, 3)) {
		t.Errorf("%v", l)
	}
	if l := least(0, func(*growing[nothing]) {}); len(l) != 0 {
		t.Errorf("%v", l)
	}
}

func TestWith(t *testing.T) {
	for i := range 4 {
		a, b := nothing(i&1 == 1), nothing(i&2 == 2)
		if a.with(b) != (i > 0) {
			t.Errorf("%v with %v", a, b)
		}
	}
	for a := range len(kinds{}) {
		for b := range len(kinds{}) {
			one, two := only(a), only(b)
			both := one.with(two)
			for kind, is := range both {
				if is != (kind == a || kind == b) {
					t.Errorf("%d with %d: %v", a, b, both)
				}
			}
			if one != only(a) || two != only(b) || both != two.with(one) {
				t.Errorf("%d, %d were changed", a, b)
			}
		}
	}
}
