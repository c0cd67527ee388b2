package lines

import (
	"math"
	"math/rand"
	"slices"
	"strings"
	"testing"

	"lemmata/api"
)

func TestStarts(t *testing.T) {
	for _, x := range []struct {
		s string
		l []int
	}{
		{"", []int{0}}, {"a", []int{0}}, {"hello", []int{0}},
		{"\n", []int{0, 1}}, {"\n\n\n", []int{0, 1, 2, 3}},
		{"a\nbc\n\nd", []int{0, 2, 5, 6}}, {"a\nb\n", []int{0, 2, 4}}, {"\na", []int{0, 1}},
		// no other byte ends a line
		{"a\r\nb", []int{0, 3}}, {"a\rb\vc\fd\x00e\x1ef", []int{0}}, {"a\n\rb", []int{0, 2}},
		// bytes, not runes, are counted, whatever they spell
		{"é\né", []int{0, 3}}, {"\u010a\u2028\u2029\u0085", []int{0}}, {"\xff\n\xc3\n\xa9", []int{0, 2, 4}}, {"\xc4\n\x8a", []int{0, 2}},
	} {
		if l := Starts(x.s); !slices.Equal(l, x.l) {
			t.Errorf("%q: %v, not %v", x.s, l, x.l)
		}
	}
	for i := range 256 {
		want := []int{0}
		if i == 10 {
			want = []int{0, 2}
		}
		if l := Starts(string([]byte{'a', byte(i), 'b'})); !slices.Equal(l, want) {
			t.Errorf("byte %d: %v", i, l)
		}
	}
}

func TestPos(t *testing.T) {
	four := []int{0, 2, 5, 6} // a\nbc\n\nd
	for _, x := range []struct {
		l         []int
		at        int
		line, col int
	}{
		{[]int{0}, 0, 1, 0}, {[]int{0}, 3, 1, 3}, {four, 0, 1, 0},
		// a byte 10 is of the line that it ends
		{four, 1, 1, 1}, {four, 2, 2, 0}, {four, 3, 2, 1}, {four, 4, 2, 2}, {four, 5, 3, 0}, {four, 6, 4, 0},
		// where the text ends, and beyond
		{four, 7, 4, 1}, {four, 100, 4, 94}, {four, math.MaxInt, 4, math.MaxInt - 6},
		{[]int{0, 1}, 1, 2, 0}, {[]int{0}, math.MaxInt, 1, math.MaxInt},
		// below 0: as 0
		{four, -1, 1, 0}, {four, -5, 1, 0}, {four, math.MinInt, 1, 0},
		// no starts
		{nil, 0, 1, 0}, {nil, 7, 1, 7}, {nil, -7, 1, 0}, {nil, math.MaxInt, 1, math.MaxInt}, {nil, math.MinInt, 1, 0}, {[]int{}, 7, 1, 7},
		// all above at
		{[]int{5}, 3, 1, 3}, {[]int{5, 9}, 4, 1, 4}, {[]int{5, 9}, 0, 1, 0}, {[]int{5, 9}, -4, 1, 0}, {[]int{math.MaxInt}, 9, 1, 9},
		// the first one need not be 0
		{[]int{5, 9}, 5, 1, 0}, {[]int{5, 9}, 8, 1, 3}, {[]int{5, 9}, 9, 2, 0}, {[]int{5, 9}, 10, 2, 1},
		// the last one counts, whatever stands ahead
		{[]int{0, 4, 4, 9}, 6, 3, 2}, {[]int{6, 3, 9, 1, 8}, 7, 4, 6}, {[]int{6, 3, 9, 1, 8}, 2, 4, 1}, {[]int{6, 3, 9}, 5, 2, 2}, {[]int{2, 8}, 3, 1, 1},
		{[]int{-3}, 1, 1, 4}, {[]int{-3}, -9, 1, 3}, {[]int{-3, 0}, -9, 2, 0},
	} {
		if line, col := Pos(x.l, x.at); line != x.line || col != x.col {
			t.Errorf("%v, %d: %d %d, not %d %d", x.l, x.at, line, col, x.line, x.col)
		}
	}
}

func TestEdit(t *testing.T) {
	const s = "a\nbc\n\nd"
	for _, x := range []struct {
		s string
		c api.Splice
		l []int
	}{
		// nothing goes, nothing comes
		{s, api.Splice{}, []int{0, 2, 5, 6}}, {s, api.Splice{At: 2}, []int{0, 2, 5, 6}}, {s, api.Splice{At: 7}, []int{0, 2, 5, 6}},
		// a start at the splice stays, those behind move
		{s, api.Splice{Put: "xy"}, []int{0, 4, 7, 8}}, {s, api.Splice{At: 1, Put: "x"}, []int{0, 3, 6, 7}}, {s, api.Splice{At: 2, Put: "x"}, []int{0, 2, 6, 7}},
		{s, api.Splice{At: 5, Put: "x"}, []int{0, 2, 5, 7}}, {s, api.Splice{At: 7, Put: "x"}, []int{0, 2, 5, 6}},
		// lines come
		{s, api.Splice{Put: "\n"}, []int{0, 1, 3, 6, 7}}, {s, api.Splice{At: 2, Put: "\n"}, []int{0, 2, 3, 6, 7}}, {s, api.Splice{At: 7, Put: "\n"}, []int{0, 2, 5, 6, 8}},
		{s, api.Splice{At: 3, Put: "x\ny\n\n"}, []int{0, 2, 5, 7, 8, 10, 11}}, {s, api.Splice{At: 3, Put: "\r"}, []int{0, 2, 6, 7}},
		// lines go
		{s, api.Splice{At: 1, N: 1}, []int{0, 4, 5}}, {s, api.Splice{At: 4, N: 1}, []int{0, 2, 5}}, {s, api.Splice{At: 5, N: 1}, []int{0, 2, 5}},
		{s, api.Splice{At: 4, N: 2}, []int{0, 2}}, {s, api.Splice{At: 1, N: 5}, []int{0}}, {s, api.Splice{At: 2, N: 2}, []int{0, 2, 3, 4}},
		{s, api.Splice{N: 2}, []int{0, 3, 4}}, {s, api.Splice{N: 7}, []int{0}}, {s, api.Splice{At: 6, N: 1}, []int{0, 2, 5, 6}},
		// lines go, and others come
		{s, api.Splice{At: 1, N: 1, Put: "\n"}, []int{0, 2, 5, 6}}, {s, api.Splice{At: 1, N: 1, Put: "\n\n"}, []int{0, 2, 3, 6, 7}},
		{s, api.Splice{N: 7, Put: "\n\n"}, []int{0, 1, 2}}, {s, api.Splice{N: 7, Put: s}, []int{0, 2, 5, 6}}, {s, api.Splice{At: 2, N: 3, Put: "x\nyz"}, []int{0, 2, 4, 7}},
		// of no bytes
		{"", api.Splice{}, []int{0}}, {"", api.Splice{Put: "a"}, []int{0}}, {"", api.Splice{Put: "\n"}, []int{0, 1}}, {"", api.Splice{Put: "a\nb\n"}, []int{0, 2, 4}},
		{"\n", api.Splice{N: 1}, []int{0}}, {"\n", api.Splice{Put: "\n"}, []int{0, 1, 2}}, {"\n", api.Splice{At: 1, Put: "\n"}, []int{0, 1, 2}},
		// bytes, not runes, come and go
		{"é\né", api.Splice{At: 1, N: 1, Put: "\u010a"}, []int{0, 4}}, {"\xc4\n\x8a", api.Splice{At: 1, N: 1}, []int{0}},
	} {
		if l := Edit(startsOf(x.s), x.c); !slices.Equal(l, x.l) {
			t.Errorf("%q, %v: %v, not %v", x.s, x.c, l, x.l)
		}
		sameEdit(t, x.s, Starts(x.s), x.c)
	}
}

// All short texts, with all splices of all shorter ones.
func TestAllShortTexts(t *testing.T) {
	puts := texts("\nb", 3)
	for _, s := range append(texts("\n\ra", 5), texts("\na", 7)...) {
		l := sameStarts(t, s)
		for c := range splices(len(s), puts) {
			sameEdit(t, s, l, c)
		}
	}
}

// It does not matter how often starts were reckoned of starts.
func TestLongRunsOfEdits(t *testing.T) {
	chance := rand.New(rand.NewSource(1))
	for range 200 {
		s := anyText(chance, 30)
		l := sameStarts(t, s)
		for range 100 {
			s, l = sameEdit(t, s, l, anySplice(chance, len(s)))
		}
		sameStarts(t, s)
	}
}

func TestLongTexts(t *testing.T) {
	const n = 100000
	for _, s := range []string{strings.Repeat("a", n), strings.Repeat("\n", n), strings.Repeat("ab\n", n), strings.Repeat("a\r\n\n", n) + "b"} {
		l := Starts(s)
		if !slices.Equal(l, startsOf(s)) {
			t.Fatalf("%q..: %d starts", s[:4], len(l))
		}
		for i := 0; i < len(l); i += 1 + len(l)/50 {
			if line, col := Pos(l, l[i]); line != i+1 || col != 0 {
				t.Errorf("%q..: %d: %d %d", s[:4], l[i], line, col)
			}
		}
		for _, c := range []api.Splice{{Put: s}, {At: n / 2, N: n / 2}, {At: n, Put: s}, {N: len(s), Put: "\n"}, {At: n / 2, N: 1, Put: "\n\n"}} {
			sameEdit(t, s, l, c)
		}
	}
}

// Whatever is handed in, a call ends, and the same call tells the same.
func TestWhatMayNotBe(t *testing.T) {
	numbers := []int{math.MinInt, math.MinInt + 1, -(1 << 31), -2, -1, 0, 1, 2, 3, 1 << 31, math.MaxInt - 1, math.MaxInt}
	rows := [][]int{nil, {}, {0}, {0, 1, 2}, {2, 1, 0}, {0, 0}, {-1}, {math.MaxInt, math.MinInt}, {math.MinInt, 0, math.MaxInt}}
	for _, l := range rows {
		was := slices.Clone(l)
		for _, at := range numbers {
			Pos(l, at)
			for _, n := range numbers {
				for _, put := range []string{"", "a", "\n", "a\nb\n"} {
					c := api.Splice{At: at, N: n, Put: put}
					if m := Edit(l, c); !slices.Equal(m, Edit(l, c)) || !slices.Equal(l, was) {
						t.Errorf("%v, %v: %v", was, c, m)
					}
				}
			}
		}
	}
}
