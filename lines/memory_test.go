package lines

import (
	"slices"
	"testing"

	"lemmata/api"
)

// roomy is the starts of a\nbc\n\nd, with spare room behind them, which holds more.
func roomy() []int {
	l := []int{0, 2, 5, 6, 7, 1, 9, 9, 9, 9}
	return l[:4]
}

func TestEditLeavesAndKeepsNothing(t *testing.T) {
	for c := range splices(7, []string{"", "x", "\n", "x\n\ny"}) {
		l, was := roomy(), roomy()
		m := Edit(l, c)
		told := slices.Clone(m)
		if !slices.Equal(l[:cap(l)], was[:cap(was)]) {
			t.Fatalf("%v: what was handed in was changed: %v", c, l[:cap(l)])
		}
		clear(l[:cap(l)])
		if !slices.Equal(m, told) {
			t.Errorf("%v: what was handed in was kept", c)
		}
		l = roomy()
		clear(m[:cap(m)])
		if again := Edit(l, c); !slices.Equal(again, told) || !slices.Equal(l, was) {
			t.Errorf("%v: the same call tells another: %v", c, again)
		}
	}
}

func TestStartsAreNewMemory(t *testing.T) {
	for _, s := range []string{"", "a", "a\nb", "\n\n"} {
		one := Starts(s)
		clear(one[:cap(one)])
		if two := Starts(s); !slices.Equal(two, startsOf(s)) {
			t.Errorf("%q: %v", s, two)
		}
	}
}

func TestPosLeavesWhatItIsHanded(t *testing.T) {
	for at := range 12 {
		l, was := roomy(), roomy()
		Pos(l, at)
		if !slices.Equal(l[:cap(l)], was[:cap(was)]) {
			t.Errorf("%d: %v", at, l[:cap(l)])
		}
	}
}

// What stands in spare room alone is not there.
func TestStartsWithinTheList(t *testing.T) {
	l := roomy()
	if line, col := Pos(l, 9); line != 4 || col != 3 {
		t.Errorf("%d %d", line, col)
	}
	if line, col := Pos(l[:1], 9); line != 1 || col != 9 {
		t.Errorf("%d %d", line, col)
	}
	if line, col := Pos(l[:0], 9); line != 1 || col != 9 {
		t.Errorf("%d %d", line, col)
	}
	if m := Edit(l, api.Splice{At: 7, Put: "\n"}); !slices.Equal(m, []int{0, 2, 5, 6, 8}) {
		t.Errorf("%v", m)
	}
	if m := Edit(l[:1], api.Splice{Put: "\n"}); !slices.Equal(m, []int{0, 1}) {
		t.Errorf("%v", m)
	}
}

func TestNilAndEmptyAreOne(t *testing.T) {
	for at := -1; at < 3; at++ {
		line, col := Pos(nil, at)
		if l, c := Pos([]int{}, at); l != line || c != col {
			t.Errorf("%d: %d %d, %d %d", at, line, col, l, c)
		}
	}
	for c := range splices(2, []string{"", "\n"}) {
		if l, m := Edit(nil, c), Edit([]int{}, c); !slices.Equal(l, m) {
			t.Errorf("%v: %v %v", c, l, m)
		}
	}
}
