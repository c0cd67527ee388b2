package nfa

import (
	"math"
	"math/rand"
	"slices"
	"strings"
	"testing"

	"lemmata/api"
	"lemmata/rex"
)

// patterns tells the items of each of those texts.
func patterns(t *testing.T, texts ...string) (pats [][]api.Item) {
	t.Helper()
	for _, s := range texts {
		items, ok := rex.Parse(s)
		if !ok {
			t.Fatalf("%q is no pattern", s)
		}
		pats = append(pats, items)
	}
	return pats
}

// allPatterns tells the items of all patterns among all texts of at most n of those bytes.
func allPatterns(of string, n int) (pats [][]api.Item) {
	for _, s := range textsOf(of, n) {
		if items, ok := rex.Parse(s); ok {
			pats = append(pats, items)
		}
	}
	return pats
}

func TestLongest(t *testing.T) {
	for _, x := range []struct {
		pats, s string
		kind, n int
	}{
		{"a ab", "abc", 1, 2}, {"a ab", "ab", 1, 2}, {"a ab", "a", 0, 1}, {"a ab", "aab", 0, 1}, {"a ab", "b", 0, 0}, {"a ab", "", 0, 0}, {"a ab", "ba", 0, 0},
		{"ab a", "abc", 0, 2}, {"ab a", "ac", 1, 1},
		{"if [a-z]+", "if", 0, 2}, {"if [a-z]+", "ifs", 1, 3}, {"if [a-z]+", "i", 1, 1}, {"[a-z]+ if", "if", 0, 2},
		{"a a a", "a", 0, 1}, {"b a a", "a", 1, 1}, {"aa a+ a*", "aaaa", 1, 4},
		{"a*", "", 0, 0}, {"a*", "b", 0, 0}, {"a*", "aaab", 0, 3}, {"a?", "b", 0, 0}, {"a? b", "b", 1, 1}, {"(a*)*b* c", "c", 1, 1},
		{"abcde a", "abcdx", 1, 1}, {"abcde ab a", "abcdx", 1, 2}, {"abcde", "abcdx", 0, 0}, {"a(bcde)?", "abcdx", 0, 1}, {"a(bcde)*", "abcdebcdx", 0, 5},
		{".", " ", 0, 1}, {".", "~", 0, 1}, {".", "\x1f", 0, 0}, {".", "\x7f", 0, 0}, {".", "\n", 0, 0}, {".+", "a\xc3\xa9", 0, 1}, {".", "\x00", 0, 0}, {".", "\xff", 0, 0},
		{"[b-d]", "a", 0, 0}, {"[b-d]", "b", 0, 1}, {"[b-d]", "c", 0, 1}, {"[b-d]", "d", 0, 1}, {"[b-d]", "e", 0, 0}, {"[x0-9b-d]+", "c9x0be", 0, 5}, {"[a-cb-d]+", "adbce", 0, 4},
		{`\. .`, ".", 0, 1}, {`\. .`, "x", 1, 1}, {`[\]\-\\]+`, `-]\x`, 0, 3},
		{"(a|b)*abb", "abaabbabbab", 0, 9}, {"(aa|aaa)+", "a", 0, 0}, {"(aa|aaa)+", "aaaaa", 0, 5}, {"((a?b)+c)?d", "abbcd", 0, 5}, {"(a+b)?c", "abc", 0, 3}, {"(a+b)?c", "ac", 0, 0}, {"(a*b)?c", "ac", 0, 0}, {"(a*b)+", "aabbabaa", 0, 6}, {"(a+b+)+", "abbab", 0, 5}, {"(a?)+", "aa", 0, 2},
	} {
		kind, n, ok := Longest(Of(patterns(t, strings.Fields(x.pats)...)), x.s)
		if kind != x.kind || n != x.n || ok != (x.n > 0) {
			t.Errorf("%s of %q: %d %d %v", x.pats, x.s, kind, n, ok)
		}
	}
}

func TestOfEachByte(t *testing.T) {
	for c := range 256 {
		s := string([]byte{byte(c)})
		items := []api.Item{{Op: api.Class, L: []api.Range{{Lo: byte(c), Hi: byte(c)}}}}
		l := Of([][]api.Item{items})
		may := ' ' <= c && c <= '~'
		if may != (len(l) > 0) {
			t.Errorf("%q: %v", s, l)
		}
		for other := range 256 {
			if _, _, ok := Longest(l, string([]byte{byte(other)})); ok != (may && other == c) {
				t.Errorf("byte %d leads to %q", other, s)
			}
		}
	}
}

// sameAsOneByOne holds all that the states tell of s against the patterns themselves.
func sameAsOneByOne(t *testing.T, pats [][]api.Item, texts []string) {
	t.Helper()
	l := Of(pats)
	for _, s := range texts {
		if got, want := endsOf(l, s), kindsOf(pats, s); !slices.Equal(got, want) {
			t.Fatalf("%v of %q: it leads to %v, not %v", pats, s, got, want)
		}
		kind, n, ok := Longest(l, s)
		wantKind, wantN, wantOk := longestBy(s, func(front string) []int { return kindsOf(pats, front) })
		if kind != wantKind || n != wantN || ok != wantOk {
			t.Fatalf("%v of %q: %d %d %v, not %d %d %v", pats, s, kind, n, ok, wantKind, wantN, wantOk)
		}
	}
}

func TestOfIsTheSameAsOneByOne(t *testing.T) {
	texts := textsOf("ab", 4)
	pats := allPatterns("ab()|*+?", 5)
	for i := range pats {
		sameAsOneByOne(t, pats[i:i+1], texts)
	}
	chance := rand.New(rand.NewSource(4))
	for range 500 {
		var some [][]api.Item
		for range chance.Intn(9) {
			some = append(some, pats[chance.Intn(len(pats))])
		}
		sameAsOneByOne(t, some, texts)
	}
}

// A state that takes no byte takes not even byte 0.
func TestOfTextsOfAnyBytes(t *testing.T) {
	texts := textsOf("\x00\x01a\x7f\xff", 3)
	for _, pats := range []string{"a", "a|b a?", "a* a+", "(a|.)+", "[ab]a", ". a?a?"} {
		sameAsOneByOne(t, patterns(t, strings.Fields(pats)...), texts)
	}
}

// randomPattern is of so many Classes, with other items at any place that takes them.
func randomPattern(chance *rand.Rand, classes []api.Item, n int) (items []api.Item) {
	for waiting := 0; n > 0 || waiting > 1; {
		op := api.Class + chance.Intn(6)
		switch {
		case op == api.Class && n > 0:
			items = append(items, classes[chance.Intn(len(classes))])
			n, waiting = n-1, waiting+1
		case (op == api.Join || op == api.Alt) && waiting > 1:
			items = append(items, api.Item{Op: op})
			waiting--
		case op >= api.Star && waiting > 0 && chance.Intn(3) == 0:
			items = append(items, api.Item{Op: op})
		}
	}
	return items
}

func TestOfGreatPatterns(t *testing.T) {
	texts := textsOf("abc", 4)
	chance := rand.New(rand.NewSource(3))
	classes := slices.Concat(patterns(t, "a", "b", "c", "[ab]", "[b-c]", "[a-cb]")...)
	for range 1500 {
		items := randomPattern(chance, classes, 1+chance.Intn(8))
		if shortest(items) <= api.MaxRex {
			sameAsOneByOne(t, [][]api.Item{items, patterns(t, "ab?")[0]}, texts)
		}
	}
}

func TestOfNoPatterns(t *testing.T) {
	for _, pats := range [][][]api.Item{nil, {}} {
		l := Of(pats)
		if len(l) == 0 {
			t.Error("there is a first state")
		}
		for _, s := range textsOf("\x00a~\xff", 3) {
			if ends := endsOf(l, s); ends != nil {
				t.Errorf("%q leads to %v", s, ends)
			}
			if kind, n, ok := Longest(l, s); kind != 0 || n != 0 || ok {
				t.Errorf("%q: %d %d %v", s, kind, n, ok)
			}
		}
	}
}

func TestOfManyPatterns(t *testing.T) {
	var texts []string
	for c := byte('a'); c <= 'z'; c++ {
		for d := byte('a'); d <= 'z'; d++ {
			texts = append(texts, string([]byte{c, d}))
		}
	}
	l := Of(patterns(t, texts...))
	for k, s := range texts {
		if kind, n, ok := Longest(l, s+"a"); kind != k || n != 2 || !ok {
			t.Errorf("%q: %d %d %v", s, kind, n, ok)
		}
	}
}

func class(l ...api.Range) api.Item { return api.Item{Op: api.Class, L: l} }

func TestOfWhatIsNoPattern(t *testing.T) {
	a := class(api.Range{Lo: 'a', Hi: 'a'})
	join, alt, star := api.Item{Op: api.Join}, api.Item{Op: api.Alt}, api.Item{Op: api.Star}
	good := []api.Item{a}
	for i, wrong := range [][]api.Item{
		nil, {}, {join}, {alt}, {star}, {{Op: api.Plus}}, {{Op: api.Maybe}},
		{a, join}, {a, alt}, {join, a}, {star, a}, {a, a}, {a, a, join, join}, {a, a, alt, alt}, {a, join, a}, {a, a, a, join}, {a, a, join, a}, {a, a, star}, {a, star, join},
		{{}}, {{Op: 7}}, {{Op: -1}}, {{Op: math.MaxInt}}, {{Op: math.MinInt}}, {{L: a.L}}, {{Op: 7, L: a.L}}, {a, {}}, {a, {Op: 7}}, {a, {Op: 7}, join}, {{Op: 7}, a, join}, {a, {Op: 0}, alt}, {{Op: 7}, star}, {a, a, {Op: 7}},
		{{Op: api.Class}}, {{Op: api.Class, L: []api.Range{}}}, {{Op: api.Class}, a, join}, {a, {Op: api.Class}, alt},
		{a, {Op: api.Star, L: a.L}}, {a, a, {Op: api.Join, L: a.L}}, {a, a, {Op: api.Alt, L: a.L}}, {a, {Op: api.Maybe, L: a.L}}, {a, {Op: api.Plus, L: a.L}, star},
		{class(api.Range{})}, {class(api.Range{Lo: 'b', Hi: 'a'})}, {class(api.Range{Lo: '~', Hi: ' '})}, {class(api.Range{Lo: 31, Hi: 31})}, {class(api.Range{Lo: 127, Hi: 127})}, {class(api.Range{Lo: 31, Hi: 126})}, {class(api.Range{Lo: 32, Hi: 127})}, {class(api.Range{Lo: 0, Hi: 255})}, {class(api.Range{Lo: 32, Hi: 255})}, {class(api.Range{Lo: 128, Hi: 200})},
		{class(a.L[0], api.Range{Lo: 'b', Hi: 'a'})}, {class(api.Range{Lo: 1, Hi: 2}, a.L[0])}, {class(a.L[0], api.Range{Lo: 'a', Hi: 200}, a.L[0])},
	} {
		for k, pats := range [][][]api.Item{{wrong}, {good, wrong}, {wrong, good}, {good, wrong, good}, {wrong, wrong}} {
			if l := Of(pats); len(l) != 0 {
				t.Errorf("%d, %d: %v is no pattern", i, k, wrong)
			}
		}
	}
}

// Of items that stand in any order, short enough for a text: those are patterns of which each takes what is there, and one is left.
func TestOfAllShortLists(t *testing.T) {
	all := slices.Concat(patterns(t, "a", "-", `\*`, "[ab]", ".", `[\]-a]`)...)
	for op := api.Join; op <= api.Maybe; op++ {
		all = append(all, api.Item{Op: op})
	}
	var try func(items []api.Item, waiting int, may bool)
	try = func(items []api.Item, waiting int, may bool) {
		if l := Of([][]api.Item{items}); (len(l) > 0) != (may && waiting == 1) {
			t.Fatalf("%v: %v", items, l)
		}
		if len(items) == 4 {
			return
		}
		for _, item := range all {
			left := waiting + 1 - map[int]int{api.Join: 2, api.Alt: 2, api.Star: 1, api.Plus: 1, api.Maybe: 1}[item.Op]
			try(append(slices.Clone(items), item), left, may && left > 0)
		}
	}
	try(nil, 0, true)
}

func TestOfAllThatParseTells(t *testing.T) {
	texts := textsOf("a()|*.", 6)
	texts = append(texts, textsOf(`a[]-\^`, 6)...)
	texts = append(texts, textsOf(`()[]|*+?.\- ~`, 4)...)
	texts = append(texts, strings.Repeat("a", 24), strings.Repeat(`\*`, 12), "a"+strings.Repeat("*", 23), strings.Repeat("(a)", 8), "a|b|c|d|e|f|g|h|i|j|k|l+", "((((((((((([a]))))))))))", "[abcdefghijklmnopqrstuv]", `[\]-\]\--\-\\-\\\\-\]\-]`, "[ -~ -~ -~ -~ -~ -~ -~a]", strings.Repeat("(a|b)c", 4), strings.Repeat(".", 24))
	for _, s := range texts {
		items, ok := rex.Parse(s)
		if !ok {
			continue
		}
		if n := shortest(items); n > len(s) {
			t.Fatalf("%q has a text of fewer bytes than %d", s, n)
		}
		if len(Of([][]api.Item{items})) == 0 {
			t.Fatalf("%q is a pattern", s)
		}
	}
}

// A pattern whose text would have more than MaxRex bytes is one that Parse does not tell.
func TestOfPatternsWithoutText(t *testing.T) {
	chance := rand.New(rand.NewSource(2))
	classes := slices.Concat(patterns(t, "a", "b", ".", `\*`, `\.`, "-", `\]`, "[ab]", "[b-d]", `[\]]`, `[\--\]]`, `[ -~\\]`, "[.a-c*]")...)
	some := map[bool]int{}
	for range 20000 {
		items := randomPattern(chance, classes, 1+chance.Intn(20))
		n := shortest(items)
		if n < 16 || n > 32 {
			continue
		}
		some[n <= 24]++
		if got := len(Of([][]api.Item{items})) > 0; got != (n <= 24) {
			t.Fatalf("%v: %d bytes: %v", items, n, got)
		}
	}
	if some[true] < 1000 || some[false] < 1000 {
		t.Errorf("only %v were tried", some)
	}
}

func TestOfPatternsAtTheBound(t *testing.T) {
	a := class(api.Range{Lo: 'a', Hi: 'a'})
	mark := class(api.Range{Lo: '*', Hi: '*'})
	row := func(item api.Item, op, n int) []api.Item {
		items := []api.Item{item}
		for range n - 1 {
			items = append(items, item, api.Item{Op: op})
		}
		return items
	}
	signs := func(n int) []api.Item {
		return append([]api.Item{a}, slices.Repeat([]api.Item{{Op: api.Plus}}, n)...)
	}
	// from the right, each but the innermost Join is in brackets
	rightJoins := func(n int) []api.Item {
		return append(slices.Repeat([]api.Item{a}, n), slices.Repeat([]api.Item{{Op: api.Join}}, n-1)...)
	}
	ranges := func(n int) []api.Item { return []api.Item{class(slices.Repeat(a.L, n)...)} }
	for i, x := range []struct {
		of   func(n int) []api.Item
		most int
	}{
		{func(n int) []api.Item { return row(a, api.Join, n) }, 24},
		{func(n int) []api.Item { return row(mark, api.Join, n) }, 12},
		{func(n int) []api.Item { return row(a, api.Alt, n) }, 12},
		{signs, 23}, {rightJoins, 9}, {ranges, 22},
	} {
		for n := 1; n <= 60; n++ {
			if got := len(Of([][]api.Item{x.of(n)})) > 0; got != (n <= x.most) {
				t.Errorf("%d of %d: %v", i, n, got)
			}
		}
	}
}

func TestLongestOfStatesOfOnesOwn(t *testing.T) {
	own := []api.State{
		{Lo: 'a', Hi: 'c', Next: 1, Free: []int{2, 99, -1}},
		{Lo: 'x', Hi: 'x', Next: 50, End: 3},
		{Lo: 'b', Hi: 'b', Next: 3, Free: []int{0}},
		{Lo: 1, Next: -1, Free: []int{1}, End: 2},
	}
	for s, want := range map[string][2]int{"": {0, 0}, "a": {2, 1}, "b": {1, 1}, "c": {2, 1}, "d": {0, 0}, "bx": {1, 1}, "ab": {2, 1}} {
		if kind, n, ok := Longest(own, s); kind != want[0] || n != want[1] || ok != (want[1] > 0) {
			t.Errorf("%q: %d %d %v", s, kind, n, ok)
		}
	}
	for i, x := range []struct {
		l       []api.State
		s       string
		kind, n int
	}{
		{nil, "a", 0, 0}, {[]api.State{}, "a", 0, 0}, {nil, "", 0, 0}, {[]api.State{{}}, "a", 0, 0}, {[]api.State{{End: 5}}, "", 0, 0}, {[]api.State{{End: 5}}, "a", 0, 0},
		{[]api.State{{End: 5}}, "\x00\x00\x01", 4, 2}, // byte 0 leads from it to itself
		{[]api.State{{Hi: 255, End: 1}}, "\x00a\xff", 0, 3}, {[]api.State{{Lo: 'b', Hi: 'a', End: 1}}, "ab", 0, 0},
		{[]api.State{{Lo: 'a', Hi: 'a', Next: 1, End: 1}, {End: 1}}, "aa", 0, 1}, {[]api.State{{Lo: 'a', Hi: 'a', Next: 1}, {Free: []int{0, 2}}, {End: 9}}, "aab", 8, 2},
		{[]api.State{{Free: []int{0, 1, 1}, Next: 7}, {Free: []int{1, 0, 2}, Next: 7}, {Lo: 'a', Hi: 'a', Next: 0, Free: []int{0}, End: 2}}, "aab", 1, 2},
		{[]api.State{{Lo: 'a', Hi: 'a', Next: 1}}, "a", 0, 0}, {[]api.State{{Lo: 'a', Hi: 'a', Next: -1, End: 1}}, "a", 0, 0}, {[]api.State{{Free: []int{-1, 1, math.MaxInt, math.MinInt}, End: 1}}, "a", 0, 0}, {[]api.State{{Lo: 'a', Hi: 'a', Next: math.MaxInt}}, "a", 0, 0}, {[]api.State{{Lo: 'a', Hi: 'a', Next: math.MinInt}}, "a", 0, 0},
		{[]api.State{{Lo: 'a', Hi: 'a', Next: 1}, {End: math.MaxInt}}, "a", math.MaxInt - 1, 1},
		{[]api.State{{Lo: 'a', Hi: 'a', Next: 1}, {Lo: 1, End: 2, Free: []int{2, 3}}, {Lo: 1, End: 4}, {Lo: 1, End: 1}}, "a", 0, 1},
	} {
		if kind, n, ok := Longest(x.l, x.s); kind != x.kind || n != x.n || ok != (x.n > 0) {
			t.Errorf("%d: %d %d %v", i, kind, n, ok)
		}
	}
}

func TestLongestOfAnyStates(t *testing.T) {
	texts := textsOf("abc", 4)
	chance := rand.New(rand.NewSource(1))
	for range 3000 {
		l := make([]api.State, chance.Intn(7))
		for i := range l {
			l[i].Lo, l[i].Hi = byte('a'+chance.Intn(4)), byte('a'+chance.Intn(4))
			l[i].Next = chance.Intn(len(l)+2) - 1
			for range chance.Intn(3) {
				l[i].Free = append(l[i].Free, chance.Intn(len(l)+2)-1)
			}
			l[i].End = max(0, chance.Intn(6)-2)
		}
		for range 30 {
			s := texts[chance.Intn(len(texts))]
			kind, n, ok := Longest(l, s)
			wantKind, wantN, wantOk := longestBy(s, func(front string) []int { return endsOf(l, front) })
			if kind != wantKind || n != wantN || ok != wantOk {
				t.Fatalf("%v of %q: %d %d %v, not %d %d %v", l, s, kind, n, ok, wantKind, wantN, wantOk)
			}
		}
	}
}

func TestEveryCallEnds(t *testing.T) {
	many := 1 << 20
	a := class(api.Range{Lo: 'a', Hi: 'a'})
	for i, items := range [][]api.Item{
		slices.Repeat([]api.Item{a}, many), append([]api.Item{a}, slices.Repeat([]api.Item{{Op: api.Star}}, many)...), slices.Repeat([]api.Item{{Op: api.Join}}, many), make([]api.Item, many), {class(slices.Repeat(a.L, many)...)}, {class(make([]api.Range, many)...)},
		append(slices.Repeat([]api.Item{class(slices.Repeat(a.L, many)...)}, 24), slices.Repeat([]api.Item{{Op: api.Join}}, 23)...),
	} {
		if len(Of([][]api.Item{{a}, items})) != 0 {
			t.Errorf("%d is none", i)
		}
	}
	ring := make([]api.State, many)
	for i := range ring {
		ring[i] = api.State{Lo: 'a', Hi: 'b', Next: i - 1, Free: []int{i + 1, 0, i - 1}}
	}
	ring[many-1].Free = append(ring[many-1].Free, 0)
	ring[many-1].End = 7
	if kind, n, ok := Longest(ring, "ab"); kind != 6 || n != 2 || !ok {
		t.Errorf("%d %d %v", kind, n, ok)
	}
	if kind, n, ok := Longest(Of(patterns(t, "(a*)*", "((a|a)?)+b")), strings.Repeat("a", many)+"b"); kind != 1 || n != many+1 || !ok {
		t.Errorf("%d %d %v", kind, n, ok)
	}
	Longest([]api.State{{Hi: 255, End: -1}, {End: math.MinInt}}, "a")
}
