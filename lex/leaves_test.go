package lex

import (
	"math"
	"math/rand"
	"slices"
	"testing"

	"lemmata/api"
)

func TestLeaves(t *testing.T) {
	toks := toksOf("[a-z]+ !_+ [0-9]+ !#")
	for s, want := range map[string][]api.Leaf{
		"":         nil,
		"_#__":     nil,
		"ab":       {{Kind: 0, Text: "ab"}},
		"ab_12#c":  {{Kind: 0, Text: "ab"}, {Kind: 2, Text: "12"}, {Kind: 0, Text: "c"}},
		"_?_\xff1": {{Kind: -1, Text: "?"}, {Kind: -1, Text: "\xff"}, {Kind: 2, Text: "1"}},
		"\x00a":    {{Kind: -1, Text: "\x00"}, {Kind: 0, Text: "a"}},
		"a_a_a":    {{Kind: 0, Text: "a"}, {Kind: 0, Text: "a"}, {Kind: 0, Text: "a"}},
	} {
		rows, ok := Rows(toks)
		if !ok {
			t.Fatal("Rows")
		}
		if got := Leaves(toks, All(rows, s), s); !slices.Equal(got, want) {
			t.Errorf("%q: %v", s, got)
		}
	}
}

func TestLeavesOfOneToken(t *testing.T) {
	toks := []api.Tok{{}, {Skip: true}, {Rex: "("}}
	for _, x := range []struct {
		kind, at, n int
		want        []api.Leaf
	}{
		{0, 0, 3, []api.Leaf{{Kind: 0, Text: "abc"}}},
		{0, 1, 1, []api.Leaf{{Kind: 0, Text: "b"}}},
		{2, 1, 2, []api.Leaf{{Kind: 2, Text: "bc"}}},
		{-1, 0, 2, []api.Leaf{{Kind: -1, Text: "ab"}}},
		{1, 0, 3, nil}, {1, 1, 0, nil}, {1, -1, 1, nil}, {1, 0, 4, nil},
		// kinds that there are not
		{3, 0, 1, []api.Leaf{{Kind: -1, Text: "a"}}},
		{-2, 0, 1, []api.Leaf{{Kind: -1, Text: "a"}}},
		{math.MaxInt, 2, 1, []api.Leaf{{Kind: -1, Text: "c"}}},
		{math.MinInt, 2, 1, []api.Leaf{{Kind: -1, Text: "c"}}},
		// of no bytes, also at the end
		{0, 0, 0, []api.Leaf{{Kind: 0}}}, {2, 3, 0, []api.Leaf{{Kind: 2}}}, {9, 3, 0, []api.Leaf{{Kind: -1}}},
		// below 0, or beyond the text
		{0, -1, 1, nil}, {0, -1, 0, nil}, {0, -1, 2, nil}, {0, math.MinInt, 1, nil}, {0, math.MinInt, math.MaxInt, nil}, {0, math.MinInt, math.MinInt, nil},
		{0, 1, -1, nil}, {0, 3, -1, nil}, {0, 4, -1, nil}, {0, 0, math.MinInt, nil},
		{0, 4, 0, nil}, {0, 3, 1, nil}, {0, 2, 2, nil}, {0, 0, 4, nil}, {0, math.MaxInt, 0, nil}, {0, math.MaxInt, 1, nil}, {0, math.MaxInt, math.MaxInt, nil}, {0, 1, math.MaxInt, nil}, {0, 0, math.MaxInt, nil}, {0, math.MaxInt, math.MinInt, nil},
		{-1, 4, 0, nil}, {7, 0, 4, nil}, {-7, -1, 1, nil}, {7, 1, math.MaxInt, nil},
	} {
		l := []api.Token{{Kind: x.kind, At: x.at, Len: x.n}}
		if got := Leaves(toks, l, "abc"); !slices.Equal(got, x.want) {
			t.Errorf("%v: %v", l, got)
		}
	}
}

// They are told as they stand in l, whether they cover the text or not.
func TestLeavesOfTokensInAnyOrder(t *testing.T) {
	toks := toksOf("a !b c")
	l := []api.Token{{Kind: 2, At: 2, Len: 1}, {Kind: 0, At: 0, Len: 3}, {Kind: 1, At: 0, Len: 1}, {Kind: 0, At: 5, Len: 1}, {Kind: -1, At: 1, Len: 1}, {Kind: 2, At: 2, Len: 1}}
	want := []api.Leaf{{Kind: 2, Text: "z"}, {Kind: 0, Text: "xyz"}, {Kind: -1, Text: "y"}, {Kind: 2, Text: "z"}}
	if got := Leaves(toks, l, "xyz"); !slices.Equal(got, want) {
		t.Errorf("%v", got)
	}
}

func TestLeavesOfNothing(t *testing.T) {
	toks := toksOf("a !b")
	for _, l := range [][]api.Token{nil, {}} {
		if got := Leaves(toks, l, "ab"); len(got) != 0 {
			t.Errorf("%v", got)
		}
	}
	for _, none := range [][]api.Tok{nil, {}} {
		got := Leaves(none, []api.Token{{Kind: 0, Len: 1}, {Kind: 1, At: 1, Len: 1}}, "ab")
		if !slices.Equal(got, []api.Leaf{{Kind: -1, Text: "a"}, {Kind: -1, Text: "b"}}) {
			t.Errorf("%v", got)
		}
	}
	if got := Leaves(toks, []api.Token{{}, {Len: 1}}, ""); !slices.Equal(got, []api.Leaf{{}}) {
		t.Errorf("%v", got)
	}
}

// leavesBy looks for each token's bytes among all parts of s.
func leavesBy(toks []api.Tok, l []api.Token, s string) (leaves []api.Leaf) {
	for _, token := range l {
		kind := -1
		for k := range toks {
			if k == token.Kind {
				kind = k
			}
		}
		for from := 0; from <= len(s); from++ {
			for to := from; to <= len(s); to++ {
				if token.At == from && token.Len == to-from && (kind == -1 || !toks[kind].Skip) {
					leaves = append(leaves, api.Leaf{Kind: kind, Text: s[from:to]})
				}
			}
		}
	}
	return leaves
}

func TestLeavesOfAnyTokens(t *testing.T) {
	chance := rand.New(rand.NewSource(8))
	far := []int{math.MinInt, math.MinInt + 1, math.MaxInt - 1, math.MaxInt}
	number := func() int {
		if chance.Intn(8) == 0 {
			return far[chance.Intn(len(far))]
		}
		return chance.Intn(9) - 2
	}
	for range 3000 {
		toks := make([]api.Tok, chance.Intn(5))
		for i := range toks {
			toks[i].Skip = chance.Intn(3) == 0
		}
		var l []api.Token
		for range chance.Intn(10) {
			l = append(l, api.Token{Kind: number(), At: number(), Len: number()})
		}
		s := anyText(chance, "ab\xff", 6)
		if got, want := Leaves(toks, l, s), leavesBy(toks, l, s); !slices.Equal(got, want) {
			t.Fatalf("%v, %v of %q: %v, not %v", toks, l, s, got, want)
		}
	}
}
