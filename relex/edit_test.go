package relex

import (
	"math"
	"math/rand"
	"slices"
	"strings"
	"testing"

	"lemmata/api"
	"lemmata/lex"
)

const words = "if [a-z]+ [0-9]+ _+|#[a-z]*; [=+]|=="

func TestEdit(t *testing.T) {
	for _, x := range []struct {
		pats, s string
		c       api.Splice
		text    string
		kept    int
	}{
		// nothing: all are kept
		{words, "if_x=1", api.Splice{}, "if_x=1", 5},
		{words, "if_x=1", api.Splice{At: 3}, "if_x=1", 5},
		{words, "if_x=1", api.Splice{At: 6}, "if_x=1", 5},
		{words, "", api.Splice{}, "", 0},
		// at the front, within, and at the end
		{words, "if_x=1", api.Splice{Put: "z_"}, "z_if_x=1", 5},
		{words, "if_x=1", api.Splice{N: 2, Put: "1"}, "1_x=1", 4},
		{words, "if_x=1", api.Splice{At: 3, N: 1, Put: "yy"}, "if_yy=1", 4},
		{words, "if_x=1", api.Splice{At: 6, Put: "_"}, "if_x=1_", 5},
		{words, "if_x=1", api.Splice{At: 5, N: 1}, "if_x=", 4},
		// those beside the splice grow together, or fall apart
		{words, "if_x=1", api.Splice{At: 2, N: 1}, "ifx=1", 2},
		{words, "if_x=1", api.Splice{At: 4, Put: "="}, "if_x==1", 4},
		{words, "if_x=1", api.Splice{At: 6, Put: "2"}, "if_x=12", 4},
		{words, "a==b", api.Splice{At: 2, Put: "_"}, "a=_=b", 2},
		{words, "ab+cd", api.Splice{At: 1, Put: "+"}, "a+b+cd", 2},
		// all of it, and out of nothing
		{words, "if_x=1", api.Splice{N: 6}, "", 0},
		{words, "", api.Splice{Put: "a_b"}, "a_b", 0},
		{words, "if_x", api.Splice{N: 4, Put: "if_x"}, "if_x", 3},
		{words, "if_x", api.Splice{N: 4, Put: "if_1_x"}, "if_1_x", 3},
		// what comes as it went is as it was
		{words, "x?y", api.Splice{At: 1, N: 1, Put: "?"}, "x?y", 3},
		// another text, or another kind, of the same length
		{words, "x?y", api.Splice{At: 1, N: 1, Put: "!"}, "x!y", 2},
		{words, "ab", api.Splice{N: 2, Put: "cd"}, "cd", 0},
		{words, "+if+", api.Splice{At: 1, N: 2, Put: "is"}, "+is+", 2},
		{"aa a(a|b)", "aa", api.Splice{At: 1, N: 1, Put: "b"}, "ab", 0},
		// none counts twice: the front comes first
		{words, "a_a_a", api.Splice{At: 2, N: 2}, "a_a", 3},
		{words, "a_a", api.Splice{At: 2, Put: "a_"}, "a_a_a", 3},
		{"a", "aaa", api.Splice{At: 1, N: 1}, "aa", 2},
		{"a", "aaa", api.Splice{At: 1, Put: "a"}, "aaaa", 3},
		{"a", "aaa", api.Splice{N: 1}, "aa", 2},
		{"a", "aaa", api.Splice{Put: "aaa"}, "aaaaaa", 3},
		{"a b", "abab", api.Splice{At: 1, N: 2}, "ab", 2},
		{"a b", "ab", api.Splice{At: 1, Put: "ab"}, "aabb", 2},
		// what is far behind a token, or far ahead, tells what it is
		{"a b c abcd", "abc", api.Splice{At: 3, Put: "d"}, "abcd", 0},
		{"a b c abcd", "aabcd", api.Splice{At: 4, N: 1}, "aabc", 1},
		{"a b c abcd", "xabcx", api.Splice{At: 4, Put: "d"}, "xabcdx", 2},
		{"ab ba", "ababab", api.Splice{N: 1}, "babab", 0},
		{"ab ba", "ababab", api.Splice{At: 3, Put: "?"}, "aba?bab", 1},
		{words, "#a;b", api.Splice{N: 1}, "a;b", 1},
		{words, "a#b", api.Splice{At: 3, Put: ";"}, "a#b;", 1},
		// bytes at which none begins
		{"a", "\x00\xff", api.Splice{At: 1, Put: "a"}, "\x00a\xff", 2},
		{"a", "\xc3\xa9", api.Splice{At: 1, N: 1}, "\xc3", 1},
	} {
		rows := rowsOf(t, x.pats)
		text, m, kept, ok := Edit(rows, x.s, lex.All(rows, x.s), x.c)
		if text != x.text || !slices.Equal(m, lex.All(rows, x.text)) || kept != x.kept || !ok {
			t.Errorf("%s of %q, %v: %q %v %d %v", x.pats, x.s, x.c, text, m, kept, ok)
		}
	}
}

func TestEditTellsTokens(t *testing.T) {
	rows := rowsOf(t, words)
	_, m, _, _ := Edit(rows, "if_?", lex.All(rows, "if_?"), api.Splice{At: 2, Put: "f__1"})
	want := []api.Token{{Kind: 1, At: 0, Len: 3}, {Kind: 3, At: 3, Len: 2}, {Kind: 2, At: 5, Len: 1}, {Kind: 3, At: 6, Len: 1}, {Kind: -1, At: 7, Len: 1}}
	if !slices.Equal(m, want) {
		t.Errorf("%v", m)
	}
}

func noEdit(t *testing.T, rows []api.Row, s string, l []api.Token, c api.Splice) {
	t.Helper()
	if text, m, kept, ok := Edit(rows, s, l, c); text != "" || len(m) != 0 || kept != 0 || ok {
		t.Errorf("%q, %v: %q %v %d %v", s, c, text, m, kept, ok)
	}
}

func TestEditBeyondTheText(t *testing.T) {
	rows := rowsOf(t, "a b")
	numbers := []int{math.MinInt, math.MinInt + 1, -3, -2, -1, 0, 1, 2, 3, 4, 1 << 31, 1 << 62, math.MaxInt - 3, math.MaxInt - 2, math.MaxInt - 1, math.MaxInt}
	for _, s := range []string{"", "a", "ab?"} {
		l := lex.All(rows, s)
		may := map[[2]int]int{}
		for c := range splices(len(s), []string{""}) {
			may[[2]int{c.At, c.N}]++
		}
		for _, at := range numbers {
			for _, n := range numbers {
				for _, put := range []string{"", "a", s} {
					if c := (api.Splice{At: at, N: n, Put: put}); may[[2]int{at, n}] > 0 {
						sameEdit(t, rows, s, l, c)
					} else {
						noEdit(t, rows, s, l, c)
						noEdit(t, nil, s, nil, c)
					}
				}
			}
		}
	}
}

func TestEditOfAllShortTexts(t *testing.T) {
	for _, x := range []struct{ pats, of string }{
		{"a b", "ab"}, {"a+ b", "ab"}, {"a ab", "ab"}, {"aab a b", "ab"}, {"(aa)+ ab?", "ab"}, {"a*b b", "ab"}, {"(a|b)*ab", "ab"}, {".", "a\xff"}, {"aa bb", "ab"}, {"a+ #", "a#?"}, {"if [a-z]+", "if_"},
	} {
		rows := rowsOf(t, x.pats)
		puts := slices.Collect(textsUpTo(2, x.of))
		for s := range textsUpTo(8-len(x.of)-len(x.of)/3, x.of) {
			l := lex.All(rows, s)
			for c := range splices(len(s), puts) {
				sameEdit(t, rows, s, l, c)
			}
		}
	}
}

// What is told of one edit is what the next one is handed: it does not matter how often it was edited.
func TestEditsOneBehindTheOther(t *testing.T) {
	chance := rand.New(rand.NewSource(7))
	for _, x := range []struct{ pats, of string }{
		{words, "if01_#;=+?"}, {"a b c abcd", "abcd"}, {"(a|b)*abb ab?", "ab"}, {"aa aaaaa", "a"}, {"a? b?c [a-c]c", "abc"}, {"((a?b)+c)?d", "abcd\x00"},
	} {
		rows := rowsOf(t, x.pats)
		for range 20 {
			s, l := "", []api.Token(nil)
			for range 60 {
				s, l = sameEdit(t, rows, s, l, anySplice(chance, len(s), x.of))
				if len(s) > 40 {
					s, l = sameEdit(t, rows, s, l, api.Splice{At: 5, N: 30})
				}
			}
		}
	}
}

// Byte by byte, there and back, all is as it was.
func TestEditThereAndBack(t *testing.T) {
	rows := rowsOf(t, words)
	want := "if_x==12#a;?#b+iff"
	s, l := "", []api.Token(nil)
	for i := range len(want) {
		s, l = sameEdit(t, rows, s, l, api.Splice{At: i, Put: want[i : i+1]})
	}
	if s != want || !slices.Equal(l, lex.All(rows, want)) {
		t.Errorf("%q %v", s, l)
	}
	for len(s) > 0 {
		s, l = sameEdit(t, rows, s, l, api.Splice{N: 1})
	}
	if len(l) != 0 {
		t.Errorf("%v", l)
	}
}

func TestEditOfNoRows(t *testing.T) {
	for _, rows := range [][]api.Row{nil, {}} {
		for s := range textsUpTo(3, "a\xff") {
			l := lex.All(rows, s)
			for c := range splices(len(s), []string{"", "a", "\xffa"}) {
				if _, m := sameEdit(t, rows, s, l, c); len(m) != len(s)-c.N+len(c.Put) {
					t.Errorf("%q, %v: %v", s, c, m)
				}
			}
		}
	}
}

// anyRows leads to places that there are not, too, and its Ends are of any kind.
func anyRows(chance *rand.Rand) []api.Row {
	nexts := []int{0, 1, 2, 3, 4, -1, -2, math.MinInt, math.MaxInt}
	ends := []int{0, 0, 0, 1, 2, 3, -1, math.MinInt, math.MaxInt}
	l := make([]api.Row, chance.Intn(5))
	for i := range l {
		for c := range l[i].Next {
			l[i].Next[c] = nexts[chance.Intn(len(nexts))]
		}
		l[i].End = ends[chance.Intn(len(ends))]
	}
	return l
}

func TestEditOfAnyRows(t *testing.T) {
	chance := rand.New(rand.NewSource(8))
	for range 2000 {
		rows, s := anyRows(chance), anyText(chance, "ab\xff", 8)
		sameEdit(t, rows, s, lex.All(rows, s), anySplice(chance, len(s), "ab\xff"))
	}
}

// anyTokens tells those of a text with some of them gone, doubled, or made others, which may be of no text at all.
func anyTokens(chance *rand.Rand, l []api.Token) (out []api.Token) {
	far := []int{math.MinInt, math.MinInt + 1, math.MaxInt - 1, math.MaxInt}
	number := func(was int) int {
		switch chance.Intn(12) {
		case 0:
			return chance.Intn(9) - 2
		case 1:
			return far[chance.Intn(len(far))]
		}
		return was
	}
	for _, x := range l {
		for range []int{0, 1, 1, 1, 1, 1, 1, 1, 1, 2}[chance.Intn(10)] {
			out = append(out, api.Token{Kind: number(x.Kind), At: number(x.At), Len: number(x.Len)})
		}
	}
	return out
}

// Tokens that are not those of the text are kept just if they are there as they were.
func TestEditOfAnyTokens(t *testing.T) {
	chance := rand.New(rand.NewSource(9))
	rows := rowsOf(t, "a ab b+")
	for range 5000 {
		s := anyText(chance, "ab?", 6)
		sameEdit(t, rows, s, anyTokens(chance, lex.All(rows, s)), anySplice(chance, len(s), "ab?"))
	}
}

func TestEditOfTokensOfAnotherText(t *testing.T) {
	rows := rowsOf(t, "a b")
	for _, x := range []struct {
		s    string
		l    []api.Token
		c    api.Splice
		kept int
	}{
		{"aa", nil, api.Splice{}, 0},
		{"aa", []api.Token{}, api.Splice{}, 0},
		{"aa", []api.Token{{At: 0, Len: 1}}, api.Splice{}, 1},
		{"aa", []api.Token{{At: 1, Len: 1}}, api.Splice{}, 1},
		{"aa", []api.Token{{At: 0, Len: 1}, {At: 1, Len: 1}, {At: 2, Len: 1}}, api.Splice{}, 2},
		{"aa", []api.Token{{At: 0, Len: 1}, {At: 1, Len: 1}, {At: 2, Len: 1}}, api.Splice{At: 2, Put: "a"}, 2},
		{"a", []api.Token{{At: 0, Len: 1}, {At: 1, Len: 1}}, api.Splice{At: 1, Put: "a"}, 1},
		{"a", []api.Token{{At: -1, Len: 1}, {At: 0, Len: 1}}, api.Splice{Put: "a"}, 1},
		{"a", []api.Token{{At: -1, Len: 1}}, api.Splice{Put: "ba"}, 0},
		{"b", []api.Token{{At: 0, Len: 1}}, api.Splice{}, 0},
		{"a", []api.Token{{Kind: 1, At: 0, Len: 1}}, api.Splice{}, 0},
		{"a", []api.Token{{At: 0, Len: 2}}, api.Splice{}, 0},
		{"a", []api.Token{{At: 0, Len: 0}}, api.Splice{}, 0},
		{"a", []api.Token{{At: math.MaxInt, Len: 1}, {At: math.MinInt, Len: math.MaxInt}, {At: 0, Len: 1}}, api.Splice{Put: "b"}, 1},
	} {
		text, m, kept, ok := Edit(rows, x.s, x.l, x.c)
		if want := splicedBy(x.s, x.c); text != want || !slices.Equal(m, lex.All(rows, want)) || kept != x.kept || !ok {
			t.Errorf("%q, %v, %v: %q %v %d %v", x.s, x.l, x.c, text, m, kept, ok)
		}
	}
}

func TestEditOfALongText(t *testing.T) {
	const many = 1 << 18
	rows := rowsOf(t, "a+ b")
	s := strings.Repeat("aab", many)
	l := lex.All(rows, s)
	for _, x := range []struct {
		c      api.Splice
		n, len int
	}{
		{api.Splice{}, 2 * many, 2 * many}, {api.Splice{Put: "b"}, 2 * many, 2*many + 1}, {api.Splice{At: 3 * many, Put: "?"}, 2 * many, 2*many + 1},
		{api.Splice{At: 3 * many / 2, N: 1, Put: "b"}, 2*many - 1, 2*many + 1}, {api.Splice{N: 3 * many}, 0, 0}, {api.Splice{At: 3, N: 3*many - 3}, 2, 2},
	} {
		text, m, kept, ok := Edit(rows, s, l, x.c)
		if len(text) != len(s)-x.c.N+len(x.c.Put) || len(m) != x.len || kept != x.n || !ok {
			t.Errorf("%v: %d bytes, %d tokens, %d %v", x.c, len(text), len(m), kept, ok)
		}
	}
	noEdit(t, rows, s, l, api.Splice{At: 1, N: 3 * many})
}
