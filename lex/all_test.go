package lex

import (
	"math"
	"math/rand"
	"slices"
	"strings"
	"testing"

	"lemmata/api"
	"lemmata/dfa"
)

func TestAll(t *testing.T) {
	for _, x := range []struct {
		pats, s string
		want    []api.Token
	}{
		{`[0-9]+ \+`, "1+2", []api.Token{{Kind: 0, At: 0, Len: 1}, {Kind: 1, At: 1, Len: 1}, {Kind: 0, At: 2, Len: 1}}},
		{"a", "", nil},
		{"a", "a", []api.Token{{Kind: 0, At: 0, Len: 1}}},
		{"a", "b", []api.Token{{Kind: -1, At: 0, Len: 1}}},
		{"if [a-z]+", "ififs", []api.Token{{Kind: 1, At: 0, Len: 5}}},
		{"if [a-z]+", "if", []api.Token{{Kind: 0, At: 0, Len: 2}}},
		{"[a-z]+ if", "if", []api.Token{{Kind: 0, At: 0, Len: 2}}},
		{"a a a", "aa", []api.Token{{Kind: 0, At: 0, Len: 1}, {Kind: 0, At: 1, Len: 1}}},
		// what was begun in vain is begun again one byte on, or behind what it had
		{"abc", "ababc", []api.Token{{Kind: -1, At: 0, Len: 1}, {Kind: -1, At: 1, Len: 1}, {Kind: 0, At: 2, Len: 3}}},
		{"a abcd bc?", "abcabcd", []api.Token{{Kind: 0, At: 0, Len: 1}, {Kind: 2, At: 1, Len: 2}, {Kind: 1, At: 3, Len: 4}}},
		{"aa aaaaa", "aaaa", []api.Token{{Kind: 0, At: 0, Len: 2}, {Kind: 0, At: 2, Len: 2}}},
		// each byte that begins none is a token alone, also in a row, and at the end
		{"a", "bba\x00\xff", []api.Token{{Kind: -1, At: 0, Len: 1}, {Kind: -1, At: 1, Len: 1}, {Kind: 0, At: 2, Len: 1}, {Kind: -1, At: 3, Len: 1}, {Kind: -1, At: 4, Len: 1}}},
		{".", "\xc3\xa9", []api.Token{{Kind: -1, At: 0, Len: 1}, {Kind: -1, At: 1, Len: 1}}},
		// a kind of nothing is no token of no bytes
		{"a*", "baa", []api.Token{{Kind: -1, At: 0, Len: 1}, {Kind: 0, At: 1, Len: 2}}},
		{"a? b*", "abb", []api.Token{{Kind: 0, At: 0, Len: 1}, {Kind: 1, At: 1, Len: 2}}},
		// what is passed over is a token
		{"a !b", "aba", []api.Token{{Kind: 0, At: 0, Len: 1}, {Kind: 1, At: 1, Len: 1}, {Kind: 0, At: 2, Len: 1}}},
		{"!a+ aa", "aa", []api.Token{{Kind: 0, At: 0, Len: 2}}},
	} {
		if l := All(rowsOf(t, x.pats), x.s); !slices.Equal(l, x.want) {
			t.Errorf("%s of %q: %v", x.pats, x.s, l)
		}
	}
}

func TestAllIsTheLongestAndTheFirst(t *testing.T) {
	chance := rand.New(rand.NewSource(6))
	for _, x := range []struct{ pats, of string }{
		{"a ab", "abc"}, {"a* b", "abc"}, {"(a|b)*abb ab?", "ab"}, {"(aa|aaa)+b a", "ab"}, {"abcab ab c", "abc"}, {"a+ [ab]+c (bc)+", "abc"}, {". .. ab", "ab\x1f"}, {"a? b?c [a-c]c", "abc"},
		{"if [a-z]+ [0-9]+ #+|#[a-z]*; [=+]|==", "if0#;=+?"},
	} {
		toks := toksOf(x.pats)
		rows, all := rowsOf(t, x.pats), matchers(t, toks)
		same := func(s string) {
			if l, want := All(rows, s), tokensBy(all, s); !slices.Equal(l, want) {
				t.Fatalf("%s of %q: %v, not %v", x.pats, s, l, want)
			}
		}
		for s := range textsUpTo(4, x.of) {
			same(s)
		}
		for range 200 {
			same(anyText(chance, x.of, 30))
		}
	}
}

// covers tells whether each byte of s is in just one of l, from the front, and only a single one is of kind -1.
func covers(l []api.Token, s string) bool {
	at := 0
	for _, token := range l {
		if token.At != at || token.Len < 1 || token.Kind == -1 && token.Len > 1 {
			return false
		}
		at += token.Len
	}
	return at == len(s)
}

// anyRows leads to places that there are not, too, and its Ends are of any kind.
func anyRows(chance *rand.Rand) []api.Row {
	far := []int{-1, -2, math.MinInt, math.MaxInt}
	ends := []int{0, 0, 0, 1, 2, 3, -1, math.MinInt, math.MaxInt}
	l := make([]api.Row, chance.Intn(5))
	for i := range l {
		for c := range l[i].Next {
			l[i].Next[c] = chance.Intn(len(l) + 1)
			if chance.Intn(4) == 0 {
				l[i].Next[c] = far[chance.Intn(len(far))]
			}
		}
		l[i].End = ends[chance.Intn(len(ends))]
	}
	return l
}

func TestAllOfAnyRows(t *testing.T) {
	chance := rand.New(rand.NewSource(7))
	for range 300 {
		rows := anyRows(chance)
		for s := range textsUpTo(5, "ab\xff") {
			l := All(rows, s)
			if !covers(l, s) {
				t.Fatalf("%q: %v", s, l)
			}
			for _, token := range l {
				kind, n, ok := dfa.Longest(rows, s[token.At:])
				if !ok {
					kind, n = -1, 1
				}
				if token.Kind != kind || token.Len != n {
					t.Fatalf("%q: %v, not %d %d", s, token, kind, n)
				}
			}
		}
	}
}

func TestAllOfNoRows(t *testing.T) {
	for _, rows := range [][]api.Row{nil, {}} {
		for s := range textsUpTo(3, "a\x00\xff") {
			var want []api.Token
			for at := range len(s) {
				want = append(want, api.Token{Kind: -1, At: at, Len: 1})
			}
			if l := All(rows, s); !slices.Equal(l, want) {
				t.Errorf("%q: %v", s, l)
			}
		}
	}
}

func TestAllOfALongText(t *testing.T) {
	many := 1 << 20
	rows := rowsOf(t, "a+ b")
	l := All(rows, strings.Repeat("a", many)+strings.Repeat("b", many)+"?")
	if len(l) != many+2 || l[0] != (api.Token{Len: many}) || l[1] != (api.Token{Kind: 1, At: many, Len: 1}) || l[many+1] != (api.Token{Kind: -1, At: 2 * many, Len: 1}) {
		t.Errorf("%d tokens", len(l))
	}
	if l := All(make([]api.Row, 1), strings.Repeat("a", 1<<12)); len(l) != 1<<12 {
		t.Errorf("%d tokens", len(l))
	}
}

func TestTokensOneByOne(t *testing.T) {
	rows := rowsOf(t, "a b")
	for want := 1; want <= 3; want++ {
		n := 0
		for token := range tokens(rows, "abab") {
			if token.At != n {
				t.Errorf("%v", token)
			}
			if n++; n == want {
				break
			}
		}
		if n != want {
			t.Errorf("%d tokens, not %d", n, want)
		}
	}
}
