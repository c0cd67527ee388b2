package dfa

import (
	"math"
	"math/rand"
	"slices"
	"strings"
	"testing"

	"lemmata/api"
	"lemmata/nfa"
)

func TestLongest(t *testing.T) {
	for _, x := range []struct {
		pats, s string
		kind, n int
	}{
		{"a ab", "abc", 1, 2}, {"a ab", "ab", 1, 2}, {"a ab", "a", 0, 1}, {"a ab", "aab", 0, 1}, {"a ab", "b", 0, 0}, {"a ab", "", 0, 0}, {"a ab", "ba", 0, 0},
		{"ab a", "abc", 0, 2}, {"ab a", "ac", 1, 1},
		{"if [a-z]+", "if", 0, 2}, {"if [a-z]+", "ifs", 1, 3}, {"if [a-z]+", "i", 1, 1}, {"[a-z]+ if", "if", 0, 2},
		{"a a a", "a", 0, 1}, {"b a a", "a", 1, 1}, {"aa a+ a*", "aaaa", 1, 4},
		{"a*", "", 0, 0}, {"a*", "b", 0, 0}, {"a*", "aaab", 0, 3}, {"a?", "b", 0, 0}, {"a? b", "b", 1, 1}, {"(a*)*b* c", "c", 1, 1},
		{"abcde a", "abcdx", 1, 1}, {"abcde ab a", "abcdx", 1, 2}, {"abcde", "abcdx", 0, 0}, {"a(bcde)*", "abcdebcdx", 0, 5},
		{".", " ", 0, 1}, {".", "~", 0, 1}, {".", "\x1f", 0, 0}, {".", "\x7f", 0, 0}, {".+", "a\xc3\xa9", 0, 1}, {".", "\x00", 0, 0}, {".", "\xff", 0, 0},
		{"[b-d]", "a", 0, 0}, {"[b-d]", "b", 0, 1}, {"[b-d]", "d", 0, 1}, {"[b-d]", "e", 0, 0}, {"[x0-9b-d]+", "c9x0be", 0, 5}, {"[a-cb-d]+", "adbce", 0, 4},
		{`\. .`, ".", 0, 1}, {`\. .`, "x", 1, 1},
		{"(a|b)*abb", "abaabbabbab", 0, 9}, {"(aa|aaa)+", "a", 0, 0}, {"((a?b)+c)?d", "abbcd", 0, 5}, {"(a*b)?c", "ac", 0, 0}, {"(a*b)+", "aabbabaa", 0, 6},
	} {
		kind, n, ok := Longest(Of(statesOf(t, x.pats)), x.s)
		if kind != x.kind || n != x.n || ok != (x.n > 0) {
			t.Errorf("%s of %q: %d %d %v", x.pats, x.s, kind, n, ok)
		}
	}
}

// sameRows holds rows against those that all sets and all bytes, gone through plainly, come to.
func sameRows(t *testing.T, l []api.State) {
	t.Helper()
	want := rowsBy(l)
	if len(want) > api.MaxRows {
		want = nil
	}
	if got := Of(l); !slices.Equal(got, want) {
		t.Fatalf("%v: %d rows, not those %d", l, len(got), len(want))
	}
}

func TestOfASingleByte(t *testing.T) {
	rows := Of(statesOf(t, "a"))
	if len(rows) != 2 || rows[0].End != 0 || rows[1].End != 1 {
		t.Fatalf("%v", rows)
	}
	for c := range 256 {
		if next := rows[0].Next[c]; next != -1 && c != 'a' || next != 1 && c == 'a' {
			t.Errorf("byte %d: %d", c, next)
		}
		if rows[1].Next[c] != -1 {
			t.Errorf("byte %d leads on from the end", c)
		}
	}
}

func TestOfStatesOfOnesOwn(t *testing.T) {
	far := []int{-1, 1, math.MaxInt, math.MinInt}
	for i, x := range []struct {
		l    []api.State
		ends []int       // of each row
		ways map[int]int // from row 0, where it leads; with others nowhere
	}{
		{[]api.State{{Lo: 'a', Hi: 'c', Next: 1, Free: []int{2, 99, -1}}, {Lo: 'x', Hi: 'x', Next: 50, End: 3}, {Lo: 'b', Hi: 'b', Next: 3, Free: []int{0}}, {Lo: 1, Next: -1, Free: []int{1}, End: 2}}, []int{0, 3, 2}, map[int]int{'a': 1, 'b': 2, 'c': 1}},
		{[]api.State{{}}, []int{0}, map[int]int{0: 0}},
		{[]api.State{{Next: 1}}, []int{0}, nil},
		{[]api.State{{Lo: 255, Hi: 255, End: 5}}, []int{5}, map[int]int{255: 0}},
		{[]api.State{{Lo: 'b', Hi: 'a'}}, []int{0}, nil},
		{[]api.State{{Lo: 255, Hi: 0}}, []int{0}, nil},
		{[]api.State{{Lo: 'a', Hi: 'a', Next: -1, Free: far, End: 2}}, []int{2}, nil},
		{[]api.State{{Lo: 'a', Hi: 'a', Next: math.MaxInt}}, []int{0}, nil},
		{[]api.State{{Lo: 'a', Hi: 'a', Next: math.MinInt}}, []int{0}, nil},
		// those that nothing leads to have no row
		{[]api.State{{Lo: 1}, {Lo: 'a', Hi: 'a', Next: 2, End: 1}, {Lo: 'b', Hi: 'b', End: 2}}, []int{0}, nil},
		// a ring of what goes with nothing
		{[]api.State{{Lo: 1, Free: []int{1}}, {Lo: 1, Free: []int{2, 1}, End: 4}, {Lo: 'z', Hi: 'z', Next: 1, Free: []int{0}, End: 7}}, []int{4}, map[int]int{'z': 0}},
		// the same states, met in another order
		{[]api.State{{Lo: 'a', Hi: 'a', Next: 1, Free: []int{4}}, {Lo: 1, Free: []int{2, 3}}, {Lo: 1, End: 2, Free: []int{1}}, {Lo: 1, End: 9}, {Lo: 'b', Hi: 'b', Next: 2}}, []int{0, 2}, map[int]int{'a': 1, 'b': 1}},
		// a row for each other set, though they lead the same ways
		{[]api.State{{Lo: 'b', Hi: 'b', Next: 1, Free: []int{2}}, {Lo: 1, End: 1}, {Lo: 'a', Hi: 'a', Next: 3}, {Lo: 1, End: 1}}, []int{0, 1, 1}, map[int]int{'a': 1, 'b': 2}},
	} {
		rows := Of(x.l)
		var ends []int
		for _, row := range rows {
			ends = append(ends, row.End)
		}
		if !slices.Equal(ends, x.ends) {
			t.Fatalf("%d: %v", i, ends)
		}
		for c, got := range rows[0].Next {
			want, ok := x.ways[c]
			if !ok {
				want = -1
			}
			if got != want {
				t.Errorf("%d: byte %d leads to %d", i, c, got)
			}
		}
		sameRows(t, x.l)
	}
}

// They come up from row 0 on, those of its least byte first, and those of row 1 behind all of row 0.
func TestOfTellsRowsInOrder(t *testing.T) {
	rows := Of(statesOf(t, "dx cy b aw"))
	if len(rows) != 8 {
		t.Fatalf("%d rows", len(rows))
	}
	for i, x := range []struct {
		row, c, next int
	}{{0, 'a', 1}, {0, 'b', 2}, {0, 'c', 3}, {0, 'd', 4}, {1, 'w', 5}, {3, 'y', 6}, {4, 'x', 7}} {
		if got := rows[x.row].Next[x.c]; got != x.next {
			t.Errorf("%d: %d", i, got)
		}
	}
	for at, end := range []int{0, 0, 3, 0, 0, 4, 2, 1} {
		if rows[at].End != end {
			t.Errorf("row %d: %d", at, rows[at].End)
		}
	}
}

func TestOfPatterns(t *testing.T) {
	for _, pats := range []string{
		"", "a", "a*", "a|b", "if [a-z]+ [0-9]+", "[ab]*a[ab]", "[ab]*a[ab][ab][ab][ab]", ".*a.b", "(a*)*b (a|b)+", "[!-~]+", `a[b-d]?e|[^x]+ \.+`, "a b c d e f g h", "(a|bc)*d a+b?",
	} {
		sameRows(t, statesOf(t, pats))
	}
}

func TestOfAnyStates(t *testing.T) {
	chance := rand.New(rand.NewSource(5))
	for _, of := range []string{"abc", "\x00\x01a\xfe\xff", "abcdefghij"} {
		for range 300 {
			sameRows(t, anyStates(chance, of, 24))
		}
	}
}

// sameLongest holds rows against the states that they are of.
func sameLongest(t *testing.T, l []api.State, texts []string) {
	t.Helper()
	rows := Of(l)
	if len(rows) == 0 && len(l) > 0 {
		return // too many
	}
	for _, s := range texts {
		kind, n, ok := Longest(rows, s)
		if wantKind, wantN, wantOk := nfa.Longest(l, s); kind != wantKind || n != wantN || ok != wantOk {
			t.Fatalf("%v of %q: %d %d %v, not %d %d %v", l, s, kind, n, ok, wantKind, wantN, wantOk)
		}
	}
}

func TestRowsTellTheSameAsStates(t *testing.T) {
	texts := textsOf("abc", 5)
	for _, pats := range []string{"", "a ab", "a*", "(a|b)*abb", "[ab]*a[ab][ab] c+", "(aa|aaa)+ a", "a?b? (bc)+ .", "a b c abc", "((a?b)+c)? [a-c]b", "aa a+ aaa"} {
		sameLongest(t, statesOf(t, pats), texts)
	}
	chance := rand.New(rand.NewSource(6))
	for range 1000 {
		sameLongest(t, anyStates(chance, "abcd", 12), texts)
	}
	texts = textsOf("\x00\x01\x7f\xfe\xff", 3)
	for range 1000 {
		sameLongest(t, anyStates(chance, "\x00\x01\x7f\xfe\xff", 12), texts)
	}
}

// An End below 0 is none that a pattern has: what is told of it is what nfa tells.
func TestEndsOfAnyKind(t *testing.T) {
	for _, ends := range [][2]int{{0, 0}, {0, 3}, {3, 0}, {2, 3}, {-1, 0}, {0, -1}, {-1, 4}, {math.MaxInt, 0}, {math.MaxInt, math.MaxInt - 1}, {math.MinInt, 1}} {
		l := []api.State{{Lo: 'a', Hi: 'a', Next: 1}, {Lo: 'b', Hi: 'b', Free: []int{2}, End: ends[0]}, {Lo: 'c', Hi: 'c', Next: 2, End: ends[1]}}
		sameRows(t, l)
		sameLongest(t, l, textsOf("abc", 4))
	}
}

func TestOfNoStates(t *testing.T) {
	for _, l := range [][]api.State{nil, {}} {
		if rows := Of(l); len(rows) != 0 {
			t.Errorf("%v", rows)
		}
	}
}

func TestOfManyRows(t *testing.T) {
	for n, want := range map[int]int{1: 1, 2: 2, 299: 299, 300: 300, 301: 0, 302: 0, 600: 0, 100000: 0} {
		rows := Of(chain(n))
		if len(rows) != want {
			t.Errorf("%d: %d rows", n, len(rows))
		}
		if kind, m, ok := Longest(rows, strings.Repeat("a", n+1)); kind != 0 || m != max(0, want-1) || ok != (want > 1) {
			t.Errorf("%d: %d %d %v", n, kind, m, ok)
		}
	}
	// the last row that may be comes up with the last byte of the last row but one, or is one too many
	for _, more := range []int{0, 1} {
		l := chain(299 + more)
		l = append(l, api.State{Lo: 1, End: 2})
		l[298+more].Lo, l[298+more].Hi = 255, 255
		sameRows(t, l)
		if rows := Of(l); len(rows) != 300*(1-more) {
			t.Errorf("%d: %d rows", more, len(rows))
		}
	}
	// sets, not states, are counted
	if rows := Of(statesOf(t, ".*a......")); len(rows) < 128 || len(rows) > api.MaxRows {
		t.Errorf("%d rows", len(rows))
	}
	if rows := Of(statesOf(t, ".*a....................")); len(rows) != 0 {
		t.Errorf("%d rows", len(rows))
	}
	alone := append([]api.State{{Lo: 'a', Hi: 'a', End: 1}}, make([]api.State, 1000)...)
	if rows := Of(alone); len(rows) != 1 {
		t.Errorf("%d rows", len(rows))
	}
}

// Rows that come up with many bytes of one row are as many as the bytes.
func TestOfARowThatLeadsEverywhere(t *testing.T) {
	l := []api.State{{Lo: 1}}
	for c := range 256 {
		l[0].Free = append(l[0].Free, len(l))
		l = append(l, api.State{Lo: byte(c), Hi: byte(c), Next: len(l) + 1}, api.State{Lo: 1, End: 1 + c})
	}
	rows := Of(l)
	if len(rows) != 257 {
		t.Fatalf("%d rows", len(rows))
	}
	for c := range 256 {
		if kind, n, ok := Longest(rows, string([]byte{byte(c), 'a'})); rows[0].Next[c] != c+1 || kind != c || n != 1 || !ok {
			t.Errorf("byte %d: %d: %d %d %v", c, rows[0].Next[c], kind, n, ok)
		}
	}
}

func TestLongestOfNoRows(t *testing.T) {
	for _, l := range [][]api.Row{nil, {}} {
		for _, s := range []string{"", "a", "\x00\xff"} {
			if kind, n, ok := Longest(l, s); kind != 0 || n != 0 || ok {
				t.Errorf("%q: %d %d %v", s, kind, n, ok)
			}
		}
	}
}

func TestLongestOfRowsOfOnesOwn(t *testing.T) {
	rows := make([]api.Row, 3)
	rows[0].End = 9
	rows[0].Next['a'], rows[0].Next['b'], rows[0].Next['c'], rows[0].Next['d'] = 1, 2, 3, -1
	rows[0].Next['e'], rows[0].Next['f'], rows[0].Next['g'] = -5, math.MaxInt, math.MinInt
	rows[1].End = 4
	rows[1].Next['a'], rows[1].Next['b'], rows[1].Next['c'] = 1, 2, 7
	rows[2].Next['c'], rows[2].Next['d'] = 1, -1
	for s, want := range map[string][2]int{
		"": {0, 0}, "a": {3, 1}, "b": {0, 0}, "c": {0, 0}, "ca": {0, 0}, "d": {0, 0}, "da": {0, 0}, "e": {0, 0}, "fa": {0, 0}, "ga": {0, 0},
		"aab": {3, 2}, "aaba": {8, 4}, "abc": {3, 3}, "abd": {3, 1}, "abdc": {3, 1}, "aca": {3, 1}, "bc": {3, 2}, "x": {8, 1}, "xxa": {3, 3}, "\xff": {8, 1}, "\x00": {8, 1},
	} {
		if kind, n, ok := Longest(rows, s); kind != want[0] || n != want[1] || ok != (want[1] > 0) {
			t.Errorf("%q: %d %d %v", s, kind, n, ok)
		}
	}
}

func TestLongestOfAnyRows(t *testing.T) {
	texts := textsOf("abc", 5)
	chance := rand.New(rand.NewSource(7))
	for range 500 {
		l := make([]api.Row, chance.Intn(6))
		for i := range l {
			for c := range l[i].Next {
				l[i].Next[c] = chance.Intn(len(l)+3) - 2
			}
			l[i].End = max(0, chance.Intn(6)-2)
		}
		for _, s := range texts {
			kind, n, ok := Longest(l, s)
			if wantKind, wantN, wantOk := longestBy(l, s); kind != wantKind || n != wantN || ok != wantOk {
				t.Fatalf("%q: %d %d %v, not %d %d %v", s, kind, n, ok, wantKind, wantN, wantOk)
			}
		}
	}
}

func TestEveryCallEnds(t *testing.T) {
	many := 1 << 20
	ring := make([]api.State, many)
	for i := range ring {
		ring[i] = api.State{Lo: 'a', Hi: 'b', Next: i - 1, Free: []int{i + 1, 0, i - 1}}
	}
	ring[many-1].End = 7
	if rows := Of(ring); len(rows) != 1 || rows[0].End != 7 || rows[0].Next['b'] != 0 || rows[0].Next['c'] != -1 {
		t.Errorf("%d rows", len(rows))
	}
	if rows := Of(slices.Repeat([]api.State{{Lo: 'b', Hi: 'a', Next: math.MinInt, Free: []int{math.MaxInt}, End: math.MinInt}}, many)); len(rows) != 1 {
		t.Errorf("%d rows", len(rows))
	}
	if kind, n, ok := Longest(Of(statesOf(t, "(a*)* ((a|a)?)+b")), strings.Repeat("a", many)+"b"); kind != 1 || n != many+1 || !ok {
		t.Errorf("%d %d %v", kind, n, ok)
	}
	if kind, n, ok := Longest(make([]api.Row, 1), strings.Repeat("a", many)); kind != 0 || n != 0 || ok {
		t.Errorf("%d %d %v", kind, n, ok)
	}
}
