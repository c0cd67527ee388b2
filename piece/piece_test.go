package piece

import (
	"math"
	"math/rand"
	"slices"
	"strings"
	"testing"

	"lemmata/api"
)

func TestOpen(t *testing.T) {
	for _, s := range []string{"a", "hello", "\x00\xff\xc3", strings.Repeat("ab\n", 1000)} {
		x := Open(s)
		if !same(x, Table{Old: s, L: []api.Piece{{N: len(s)}}}) || Text(x) != s || Len(x) != len(s) || !May(x) {
			t.Errorf("%q: %v", s, x)
		}
	}
	if x := Open(""); !same(x, Table{}) || Text(x) != "" || Len(x) != 0 || !May(x) {
		t.Errorf("%v", x)
	}
}

func TestTextLenMay(t *testing.T) {
	for _, x := range []struct {
		l    []api.Piece
		text string
	}{
		{nil, ""},
		{[]api.Piece{{N: 3}}, "abc"}, {[]api.Piece{{Add: true, N: 2}}, "DE"},
		{[]api.Piece{{At: 2, N: 1}}, "c"}, {[]api.Piece{{Add: true, At: 1, N: 1}}, "E"},
		// in any order, once more, one within another
		{[]api.Piece{{At: 2, N: 1}, {At: 1, N: 1}, {N: 1}}, "cba"},
		{[]api.Piece{{N: 3}, {N: 3}, {Add: true, N: 2}, {Add: true, N: 2}}, "abcabcDEDE"},
		{[]api.Piece{{At: 1, N: 2}, {Add: true, At: 1, N: 1}, {N: 2}, {At: 1, N: 1}}, "bcEabb"},
	} {
		y := Table{Old: "abc", New: "DE", L: x.l}
		if Text(y) != x.text || Len(y) != len(x.text) || !May(y) {
			t.Errorf("%v: %q %d %v", x.l, Text(y), Len(y), May(y))
		}
	}
	if !May(Table{}) || Text(Table{}) != "" || Len(Table{}) != 0 {
		t.Errorf("of nothing: %v", Table{})
	}
}

// numbers are those about small ones, and about the greatest.
func numbers() []int {
	return []int{math.MinInt, math.MinInt + 1, -4, -1, 0, 1, 2, 3, 4, 5, 1 << 31, 1 << 62, math.MaxInt - 4, math.MaxInt - 1, math.MaxInt}
}

func TestMayOfAPiece(t *testing.T) {
	for _, add := range []bool{false, true} {
		for _, of := range []string{"", "a", "ab", "abcd"} {
			may := map[[2]int]int{}
			for at := range of {
				for to := at + 1; to <= len(of); to++ {
					may[[2]int{at, to - at}] = 1
				}
			}
			x := Table{Old: of, New: "another text"}
			if add {
				x = Table{Old: "another text", New: of}
			}
			for _, at := range numbers() {
				for _, n := range numbers() {
					x.L = []api.Piece{{Add: add, At: at, N: n}}
					yes := may[[2]int{at, n}] == 1
					if May(x) != yes {
						t.Errorf("%v: %v", x, !yes)
					}
					// one that may not be, ahead of others or behind
					good := api.Piece{N: 1}
					for _, l := range [][]api.Piece{{x.L[0], good}, {good, x.L[0]}, {good, x.L[0], good}} {
						y := Table{Old: x.Old, New: x.New, L: l}
						if y.Old != "" && May(y) != yes {
							t.Errorf("%v: %v", y, !yes)
						}
					}
				}
			}
		}
	}
}

func TestSplice(t *testing.T) {
	three := Table{Old: "abcdef", New: "XYZ", L: []api.Piece{{At: 4, N: 2}, {Add: true, N: 3}, {N: 3}}} // efXYZabc
	for _, x := range []struct {
		t    Table
		c    api.Splice
		text string
		new  string
		l    []api.Piece
	}{
		{Open("hello"), api.Splice{At: 2, N: 1, Put: "LL"}, "heLLlo", "LL", []api.Piece{{N: 2}, {Add: true, N: 2}, {At: 3, N: 2}}},
		{Open(""), api.Splice{}, "", "", nil},
		{Open(""), api.Splice{Put: "ab"}, "ab", "ab", []api.Piece{{Add: true, N: 2}}},
		{Open("ab"), api.Splice{Put: "X"}, "Xab", "X", []api.Piece{{Add: true, N: 1}, {N: 2}}},
		{Open("ab"), api.Splice{At: 2, Put: "X"}, "abX", "X", []api.Piece{{N: 2}, {Add: true, N: 1}}},
		{Open("ab"), api.Splice{N: 2}, "", "", nil},
		{Open("ab"), api.Splice{N: 2, Put: "ab"}, "ab", "ab", []api.Piece{{Add: true, N: 2}}},
		// what is cut stays cut, also where nothing goes and nothing comes
		{Open("ab"), api.Splice{At: 1}, "ab", "", []api.Piece{{N: 1}, {At: 1, N: 1}}},
		{Open("ab"), api.Splice{}, "ab", "", []api.Piece{{N: 2}}},
		{Open("ab"), api.Splice{At: 2}, "ab", "", []api.Piece{{N: 2}}},
		// between pieces none is cut
		{three, api.Splice{At: 2}, "efXYZabc", "XYZ", three.L},
		{three, api.Splice{At: 2, Put: "-"}, "ef-XYZabc", "XYZ-", []api.Piece{{At: 4, N: 2}, {Add: true, At: 3, N: 1}, {Add: true, N: 3}, {N: 3}}},
		{three, api.Splice{At: 2, N: 3}, "efabc", "XYZ", []api.Piece{{At: 4, N: 2}, {N: 3}}},
		{three, api.Splice{At: 5, N: 3, Put: "-"}, "efXYZ-", "XYZ-", []api.Piece{{At: 4, N: 2}, {Add: true, N: 3}, {Add: true, At: 3, N: 1}}},
		// within one, and over more than one
		{three, api.Splice{At: 3, N: 1}, "efXZabc", "XYZ", []api.Piece{{At: 4, N: 2}, {Add: true, N: 1}, {Add: true, At: 2, N: 1}, {N: 3}}},
		{three, api.Splice{At: 1, N: 6, Put: "--"}, "e--c", "XYZ--", []api.Piece{{At: 4, N: 1}, {Add: true, At: 3, N: 2}, {At: 2, N: 1}}},
		{three, api.Splice{N: 3, Put: "-"}, "-YZabc", "XYZ-", []api.Piece{{Add: true, At: 3, N: 1}, {Add: true, At: 1, N: 2}, {N: 3}}},
		{three, api.Splice{At: 4, N: 4}, "efXY", "XYZ", []api.Piece{{At: 4, N: 2}, {Add: true, N: 2}}},
		{three, api.Splice{N: 8}, "", "XYZ", nil},
		// two that are neighbours stay two
		{Table{Old: "abcd", L: []api.Piece{{N: 1}, {At: 1, N: 1}, {At: 2, N: 2}}}, api.Splice{At: 3, N: 1}, "abc", "", []api.Piece{{N: 1}, {At: 1, N: 1}, {At: 2, N: 1}}},
		{Table{Old: "abcd", L: []api.Piece{{N: 2}, {Add: true, N: 1}, {At: 2, N: 2}}, New: "X"}, api.Splice{At: 2, N: 1}, "abcd", "X", []api.Piece{{N: 2}, {At: 2, N: 2}}},
		// what was added and is no longer in the text is still in New
		{Table{Old: "a", New: "XYZ"}, api.Splice{Put: "\x00"}, "\x00", "XYZ\x00", []api.Piece{{Add: true, At: 3, N: 1}}},
	} {
		y, ok := Splice(x.t, x.c)
		if !ok || !same(y, Table{Old: x.t.Old, New: x.new, L: x.l}) || Text(y) != x.text || Len(y) != len(x.text) || !May(y) {
			t.Errorf("%v, %v: %v %v, %q", x.t, x.c, y, ok, Text(y))
		}
	}
}

func TestSpliceBeyondTheText(t *testing.T) {
	for _, x := range []Table{
		{}, Open("a"), Open("abc"), {Old: "abcdef", New: "XYZ"}, {Old: "a", New: "XYZ", L: []api.Piece{{Add: true, At: 1, N: 2}, {N: 1}}},
	} {
		may := map[[2]int]int{}
		for c := range splices(len(textOf(x)), "") {
			may[[2]int{c.At, c.N}] = 1
		}
		for _, at := range numbers() {
			for _, n := range numbers() {
				for _, put := range []string{"", "a", "\xffbcd"} {
					if c := (api.Splice{At: at, N: n, Put: put}); may[[2]int{at, n}] == 1 {
						sameSplice(t, x, c)
					} else {
						noSplice(t, x, c)
					}
				}
			}
		}
	}
}

// All rows of three splices of short texts.
func TestSplicesOneBehindTheOther(t *testing.T) {
	var on func(x Table, left int)
	on = func(x Table, left int) {
		for c := range splices(Len(x), "", "XY") {
			if y := sameSplice(t, x, c); left > 1 {
				on(y, left-1)
			}
		}
	}
	for _, s := range []string{"", "a", "abc"} {
		on(Open(s), 3)
	}
}

func TestLongRunsOfSplices(t *testing.T) {
	chance := rand.New(rand.NewSource(1))
	for range 100 {
		x := Open(anyText(chance, 20))
		old, text := x.Old, x.Old
		for range 100 {
			c := anySplice(chance, len(text))
			x, text = sameSplice(t, x, c), plainly(text, c)
			noSplice(t, x, api.Splice{At: len(text) + 1, Put: "no"})
			noSplice(t, x, api.Splice{At: c.At, N: len(text) - c.At + 1, Put: "no"})
			if x.Old != old || Text(x) != text {
				t.Fatalf("%v, not %q", x, text)
			}
		}
	}
}

// A table that no splices make may be, too.
func TestSpliceOfTablesThatMayBe(t *testing.T) {
	chance := rand.New(rand.NewSource(2))
	for range 2000 {
		x := Table{Old: anyText(chance, 5), New: anyText(chance, 5)}
		for range chance.Intn(6) {
			p := api.Piece{Add: chance.Intn(2) == 0, At: chance.Intn(5), N: 1 + chance.Intn(5)}
			if p.At+p.N <= len(source(x, p)) {
				x.L = append(x.L, p)
			}
		}
		if Text(x) != textOf(x) || Len(x) != len(textOf(x)) || !May(x) {
			t.Fatalf("%v: %q %d %v", x, Text(x), Len(x), May(x))
		}
		for c := range splices(len(textOf(x)), "", "-") {
			sameSplice(t, x, c)
		}
	}
}

// Of a table that may not be all calls end; its text is spliced as any other one.
func TestTablesThatMayNotBe(t *testing.T) {
	chance := rand.New(rand.NewSource(3))
	odd := numbers()
	for range 20000 {
		x := Table{Old: anyText(chance, 5), New: anyText(chance, 5)}
		for range chance.Intn(6) {
			x.L = append(x.L, api.Piece{Add: chance.Intn(2) == 0, At: odd[chance.Intn(len(odd))], N: odd[chance.Intn(len(odd))]})
		}
		text := Text(x)
		if Len(x) != len(text) {
			t.Fatalf("%v: %d, %q", x, Len(x), text)
		}
		c := anySplice(chance, len(text))
		if y, ok := Splice(x, c); !ok || Text(y) != plainly(text, c) || Len(y) != len(text)-c.N+len(c.Put) || !May(y) || y.Old != x.Old || y.New != x.New+c.Put {
			t.Fatalf("%v, %v: %v %v", x, c, y, ok)
		}
		for _, c := range []api.Splice{{At: -1}, {At: len(text) + 1}, {N: -1}, {N: len(text) + 1}, {At: len(text), N: math.MaxInt}, {At: math.MinInt, N: math.MinInt}} {
			noSplice(t, x, c)
		}
	}
}

func TestManyPieces(t *testing.T) {
	const n = 1000
	x := Open(strings.Repeat("a", n))
	for i := range n {
		x = sameSplice(t, x, api.Splice{At: 2 * i, Put: "b"})
	}
	if len(x.L) != 2*n || Text(x) != strings.Repeat("ba", n) || Len(x) != 2*n || !May(x) {
		t.Errorf("%d pieces, %d bytes", len(x.L), Len(x))
	}
	x = sameSplice(t, x, api.Splice{At: 1, N: 2*n - 2})
	if want := []api.Piece{{Add: true, N: 1}, {At: n - 1, N: 1}}; !slices.Equal(x.L, want) || Text(x) != "ba" {
		t.Errorf("%v", x.L)
	}
}
