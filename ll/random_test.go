package ll

import (
	"maps"
	"math/rand"
	"slices"
	"testing"

	"lemmata/api"
	"lemmata/gram"
)

// told is which productions Table says might be meant.
func told(g api.Grammar) map[use]int {
	l := map[use]int{}
	table, clashes := Table(g)
	for nt, row := range table {
		for tok, prod := range row {
			if prod != -1 {
				l[use{nt, tok, prod}] = 1
			}
		}
	}
	for _, c := range clashes {
		l[use{c.Nt, c.Tok, c.B}] = 1
	}
	return l
}

// reached tells whether nonterminal 0 comes to all of g's, and each of its productions to tokens: then nothing is told of them that is not to be seen.
func reached(g api.Grammar) bool {
	from, ends := map[int]int{0: 1}, map[int]int{}
	for range g.Nts {
		for _, p := range g.Prods {
			open := false
			for _, x := range p.Right {
				if !x.Tok && from[p.Left] == 1 {
					from[x.At] = 1
				}
				open = open || !x.Tok && ends[x.At] == 0
			}
			if !open {
				ends[p.Left] = 1
			}
		}
	}
	return len(from) == len(g.Nts) && len(ends) == len(g.Nts)
}

// seen holds what is told of g against the trees of texts: whatever stands in one is told. Without a clash each text has one tree at most, and the table leads to it, and to nothing else. Of grammars that are reached nothing is told that stands in none: all texts of more than four tokens are there to find that.
func seen(t *testing.T, g api.Grammar, l [][]int) {
	t.Helper()
	table, clashes := Table(g)
	all, uses := told(g), map[use]int{}
	look := len(l[len(l)-1]) > 4 && reached(g)
	for _, toks := range l {
		if len(toks) > 4 && (!look || len(uses) == len(all)) {
			break
		}
		x := textOf(g, toks)
		maps.Copy(uses, x.uses())
		if len(clashes) > 0 {
			continue
		}
		taken := x.is[[3]int{0, 0, len(toks)}]
		if n := x.trees(0, 0, len(toks), len(g.Nts)*(len(toks)+1)); n != taken || goes(g, table, toks, 1000) != (taken == 1) {
			t.Fatalf("%s: %v: %d trees, %s", spelt(g), toks, n, inWords(table))
		}
	}
	for u := range uses {
		if all[u] == 0 {
			t.Fatalf("%s: %v is not told: %s, %v", spelt(g), u, inWords(table), clashes)
		}
	}
	if look && len(uses) != len(all) {
		t.Fatalf("%s: %v of %v is seen: %s, %v", spelt(g), uses, all, inWords(table), clashes)
	}
}

// rights is all right sides of at most n symbols.
func rights(symbols string, n int) []string {
	l := []string{""}
	for from := 0; n > 0; n-- {
		to := len(l)
		for ; from < to; from++ {
			for _, c := range symbols {
				l = append(l, l[from]+string(c))
			}
		}
	}
	return l
}

// All grammars of two kinds of tokens, two nonterminals, and at most three productions of at most two symbols.
func TestSmallGrammars(t *testing.T) {
	l := texts(2, 10)
	var prods []string
	for _, right := range rights("abST", 2) {
		prods = append(prods, "S"+right, "T"+right)
	}
	for i, a := range prods {
		seen(t, made(2, 2, a), l)
		for k, b := range prods[i:] {
			g := made(2, 2, a, b)
			agrees(t, g)
			seen(t, g, l)
			for _, c := range prods[i+k:] {
				h := made(2, 2, c, a, b)
				agrees(t, h)
				seen(t, h, l)
			}
		}
	}
}

// maker makes grammars, few of which are great.
type maker struct {
	*rand.Rand
}

func (m maker) grammar(toks, nts, prods, right int) api.Grammar {
	g := made(1+m.Intn(toks), 1+m.Intn(nts))
	tokens, nothing := 1+m.Intn(5), 1+m.Intn(4) // how many of its symbols are tokens, how many productions are of nothing
	skip := -1
	if m.Intn(4) == 0 {
		skip = m.Intn(len(g.Toks))
		g.Toks[skip].Skip = true
	}
	for range 1 + m.Intn(prods) {
		p := api.Prod{Left: m.Intn(len(g.Nts))}
		for range m.Intn(right+1) * min(1, m.Intn(nothing+1)) {
			sym := api.Sym{At: m.Intn(len(g.Nts))}
			if kind := m.Intn(len(g.Toks)); m.Intn(6) < tokens && kind != skip {
				sym = api.Sym{Tok: true, At: kind}
			}
			p.Right = append(p.Right, sym)
		}
		g.Prods = append(g.Prods, p)
	}
	return g
}

func TestRandomGrammars(t *testing.T) {
	m := maker{rand.New(rand.NewSource(13))}
	clashes := map[bool]int{}
	for range 6000 {
		g := m.grammar(8, 8, 16, 5)
		if !gram.May(g) {
			t.Fatalf("the test has it wrong: %v", g)
		}
		agrees(t, g)
		_, l := Table(g)
		clashes[len(l) > 0]++
	}
	if min(clashes[true], clashes[false]) < 1000 {
		t.Errorf("%v", clashes)
	}
}

func TestRandomTexts(t *testing.T) {
	m := maker{rand.New(rand.NewSource(130))}
	told := 0
	for range 12000 {
		g := m.grammar(2, 3, 6, 3)
		seen(t, g, texts(len(g.Toks), 4))
		if _, l := Table(g); len(l) == 0 && reached(g) && len(g.Nts) > 1 {
			told++
		}
	}
	if told < 50 {
		t.Errorf("%d", told)
	}
}

// In another order of productions the same ones might be meant, and it is the first of them that is.
func TestRandomOrders(t *testing.T) {
	m := maker{rand.New(rand.NewSource(1300))}
	for range 2000 {
		g := m.grammar(8, 8, 16, 5)
		all := told(g)
		order := m.Perm(len(g.Prods))
		h := g
		h.Prods = nil
		for _, place := range order {
			h.Prods = append(h.Prods, g.Prods[place])
		}
		turned := map[use]int{}
		for u := range told(h) {
			turned[use{u.nt, u.tok, order[u.prod]}] = 1
		}
		if !maps.Equal(all, turned) {
			t.Fatalf("%s, and %v: %v, %v", spelt(g), order, all, turned)
		}
		inOrder(t, h)
	}
}

// inOrder looks at how clashes stand: by Nt, Tok, B, each A the one of the table, the first.
func inOrder(t *testing.T, g api.Grammar) {
	t.Helper()
	table, clashes := Table(g)
	for _, c := range clashes {
		if c.A != table[c.Nt][c.Tok] || c.A >= c.B || g.Prods[c.A].Left != c.Nt || g.Prods[c.B].Left != c.Nt {
			t.Fatalf("%s: %v of %s", spelt(g), c, inWords(table))
		}
	}
	rising := slices.IsSortedFunc(clashes, func(a, b api.Clash) int {
		return slices.Compare([]int{a.Nt, a.Tok, a.B}, []int{b.Nt, b.Tok, b.B})
	})
	if !rising {
		t.Fatalf("%s: %v", spelt(g), clashes)
	}
}
