package piece

import (
	"slices"
	"testing"
	"unsafe"

	"lemmata/api"
)

// roomy is a table with spare room behind its pieces, which holds one more.
func roomy() Table {
	l := []api.Piece{{At: 4, N: 2}, {Add: true, N: 3}, {N: 3}, {At: 3, N: 1}}
	return Table{Old: "abcdef", New: "XYZ", L: l[:3]}
}

// textsApart tells whether no byte of one stands where one of the other does.
func textsApart(s, t string) bool {
	if s == "" || t == "" {
		return true
	}
	one, two := uintptr(unsafe.Pointer(unsafe.StringData(s))), uintptr(unsafe.Pointer(unsafe.StringData(t)))
	return one >= two+uintptr(len(t)) || two >= one+uintptr(len(s))
}

// All splices, those that may not be too, leave what they are handed, and tell new memory.
func TestSpliceLeavesAndKeepsNothing(t *testing.T) {
	n := Len(roomy())
	l := slices.Collect(splices(n, "", "--"))
	l = append(l, api.Splice{At: -1, Put: "--"}, api.Splice{At: n + 1}, api.Splice{N: -1}, api.Splice{N: n + 1})
	for _, c := range l {
		x, was := roomy(), roomy()
		y, ok := Splice(x, c)
		if !same(x, was) || !slices.Equal(x.L[:cap(x.L)], was.L[:cap(was.L)]) {
			t.Errorf("%v: what was handed in was changed: %v", c, x)
		}
		if !textsApart(y.Old, x.Old) || !textsApart(y.New, x.New) || !textsApart(y.New, c.Put) {
			t.Errorf("%v: its texts are no new memory", c)
		}
		told := copyOf(y)
		clear(x.L[:cap(x.L)])
		if !same(y, told) {
			t.Errorf("%v: what was handed in was kept", c)
		}
		x = roomy()
		clear(y.L[:cap(y.L)])
		if again, yes := Splice(x, c); !same(again, told) || yes != ok || !same(x, was) {
			t.Errorf("%v: the same call tells another: %v %v", c, again, yes)
		}
	}
}

func TestTextAndLenAndMayLeaveWhatTheyAreHanded(t *testing.T) {
	x, was := roomy(), roomy()
	if Text(x) != "efXYZabc" || Len(x) != 8 || !May(x) || !same(x, was) || !slices.Equal(x.L[:cap(x.L)], was.L[:cap(was.L)]) {
		t.Errorf("%v", x)
	}
}

func TestTextsAreNewMemory(t *testing.T) {
	for _, s := range []string{"a", "abc"} {
		x := Open(s)
		if !textsApart(x.Old, s) || !textsApart(Text(x), s) || !textsApart(Text(x), x.Old) {
			t.Errorf("%q", s)
		}
		y, _ := Splice(Open(""), api.Splice{Put: s})
		if !textsApart(y.New, s) || !textsApart(Text(y), y.New) {
			t.Errorf("%q: what was put", s)
		}
	}
}

// What stands in spare room alone is not there.
func TestPiecesWithinTheList(t *testing.T) {
	x := roomy()
	for i, want := range []string{"", "ef", "efXYZ", "efXYZabc", "efXYZabcd"} {
		y := Table{Old: x.Old, New: x.New, L: x.L[:i]}
		if Text(y) != want || Len(y) != len(want) || !May(y) {
			t.Errorf("%d: %q %d", i, Text(y), Len(y))
		}
		noSplice(t, y, api.Splice{At: len(want) + 1})
	}
	if y := (Table{Old: "a", L: []api.Piece{{N: 1}, {N: 2}}[:1]}); !May(y) {
		t.Errorf("%v", y)
	}
}

func TestNilAndEmptyAreOne(t *testing.T) {
	for _, l := range [][]api.Piece{nil, {}} {
		x := Table{Old: "ab", New: "c", L: l}
		if Text(x) != "" || Len(x) != 0 || !May(x) {
			t.Errorf("%v", x)
		}
		sameSplice(t, x, api.Splice{})
		sameSplice(t, x, api.Splice{Put: "d"})
		noSplice(t, x, api.Splice{At: 1})
	}
}

func TestTheSameCallTellsTheSame(t *testing.T) {
	x := Open("abc")
	one, _ := Splice(x, api.Splice{At: 1, Put: "X"})
	two, _ := Splice(x, api.Splice{At: 2, Put: "Y"})
	if Text(one) != "aXbc" || Text(two) != "abYc" || Text(x) != "abc" || !same(x, Open("abc")) {
		t.Errorf("%v %v %v", one, two, x)
	}
}
