package first

import (
	"math/rand"
	"slices"
	"testing"

	"lemmata/api"
	"lemmata/gram"
)

func flat(l [][]bool) int {
	return bits(slices.Concat(l...))
}

// exact holds what is told of g against the least sets, as the document's words have them.
func exact(t *testing.T, g api.Grammar) {
	t.Helper()
	null, first, follow := leastSets(g)
	if bits(Nullable(g)) != null || flat(First(g)) != first || flat(Follow(g)) != follow {
		t.Fatalf("%s: %v, %v, %v, not %b, %b, %b", spelt(g), Nullable(g), First(g), Follow(g), null, first, follow)
	}
}

// derived holds what is told of g against what its nonterminals are seen to come to. (Where nonterminal 0 does not come to all of them, the least sets have more than is seen behind one.)
func derived(t *testing.T, g api.Grammar, long int) {
	t.Helper()
	toks, nts := len(g.Toks), len(g.Nts)
	null, first, follow := make([]bool, nts), make([][]bool, nts), make([][]bool, nts)
	for nt := range nts {
		first[nt], follow[nt] = make([]bool, toks), make([]bool, toks+1)
		for _, form := range forms(g, nt, long) {
			if len(form) == 0 {
				null[nt] = true
			} else if form[0].Tok {
				first[nt][form[0].At] = true
			}
		}
	}
	been := make([]bool, nts)
	for _, form := range forms(g, 0, long) {
		for place, x := range form {
			switch {
			case x.Tok:
				continue
			case place+1 == len(form):
				follow[x.At][toks] = true
			case form[place+1].Tok:
				follow[x.At][form[place+1].At] = true
			}
			been[x.At] = true
		}
	}
	if !slices.Equal(Nullable(g), null) || flat(First(g)) != flat(first) {
		t.Fatalf("%s: %v, %v, but %v, %v", spelt(g), Nullable(g), First(g), null, first)
	}
	got, seen := flat(Follow(g)), flat(follow)
	if seen&^got != 0 || got != seen && !slices.Contains(been, false) {
		t.Fatalf("%s: %v, but %v", spelt(g), Follow(g), follow)
	}
}

// rights is all right sides of at most n symbols.
func rights(symbols string, n int) []string {
	l := []string{""}
	for from := 0; n > 0; n-- {
		to := len(l)
		for ; from < to; from++ {
			for _, c := range symbols {
				l = append(l, l[from]+string(c))
			}
		}
	}
	return l
}

// All grammars of two kinds of tokens, two nonterminals, and at most three productions of at most two symbols.
func TestSmallGrammars(t *testing.T) {
	var prods []string
	for _, right := range rights("abST", 2) {
		prods = append(prods, "S"+right, "T"+right)
	}
	for i, a := range prods {
		exact(t, made(2, 2, a))
		for k, b := range prods[i:] {
			g := made(2, 2, a, b)
			exact(t, g)
			derived(t, g, 7)
			for _, c := range prods[i+k:] {
				exact(t, made(2, 2, c, a, b))
			}
		}
	}
}

// maker makes grammars, few of which are great.
type maker struct {
	*rand.Rand
}

func (m maker) grammar(toks, nts, prods int) api.Grammar {
	g := made(1+m.Intn(toks), 1+m.Intn(nts))
	tokens, nothing := 1+m.Intn(5), 1+m.Intn(4) // how many of its symbols are tokens, how many productions are of nothing
	skip := -1
	if m.Intn(4) == 0 {
		skip = m.Intn(len(g.Toks))
		g.Toks[skip].Skip = true
	}
	for range 1 + m.Intn(prods) {
		p := api.Prod{Left: m.Intn(len(g.Nts))}
		for range m.Intn(6) * min(1, m.Intn(nothing+1)) {
			sym := api.Sym{At: m.Intn(len(g.Nts))}
			if kind := m.Intn(len(g.Toks)); m.Intn(6) < tokens && kind != skip {
				sym = api.Sym{Tok: true, At: kind}
			}
			p.Right = append(p.Right, sym)
		}
		g.Prods = append(g.Prods, p)
	}
	return g
}

func (m maker) right(g api.Grammar) (l []api.Sym) {
	for range m.Intn(9) {
		sym := api.Sym{At: m.Intn(len(g.Nts))}
		if m.Intn(4) == 0 {
			sym = api.Sym{Tok: true, At: m.Intn(len(g.Toks))}
		}
		l = append(l, sym)
	}
	return l
}

func TestRandomGrammars(t *testing.T) {
	m := maker{rand.New(rand.NewSource(12))}
	nulls := map[bool]int{}
	for range 6000 {
		g := m.grammar(8, 8, 16)
		if !gram.May(g) {
			t.Fatalf("the test has it wrong: %v", g)
		}
		held(t, g)
		for range 4 {
			right := m.right(g)
			l, null := Row(g, right)
			want, through := search{g}.row(right)
			if !slices.Equal(l, want) || null != through {
				t.Fatalf("%v of %s: %v, %v, not %v, %v", right, spelt(g), l, null, want, through)
			}
			nulls[null]++
		}
		if g = m.grammar(2, 3, 6); m.Intn(8) == 0 {
			exact(t, g)
		}
	}
	if min(nulls[true], nulls[false]) < 2000 {
		t.Errorf("%v", nulls)
	}
}

// What is told hangs not on the order in which productions stand.
func TestRandomOrders(t *testing.T) {
	m := maker{rand.New(rand.NewSource(120))}
	for range 2000 {
		g := m.grammar(8, 8, 16)
		want := told(t, g)
		for range 3 {
			m.Shuffle(len(g.Prods), func(i, k int) { g.Prods[i], g.Prods[k] = g.Prods[k], g.Prods[i] })
			if got := told(t, g); got != want {
				t.Fatalf("%s: %v, not %v", spelt(g), got, want)
			}
		}
	}
}
