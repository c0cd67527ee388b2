package ll

import (
	"math"
	"slices"
	"strings"
	"testing"

	"lemmata/api"
	"lemmata/gram"
)

// agrees holds what is told of g against what a search finds.
func agrees(t *testing.T, g api.Grammar) {
	t.Helper()
	table, clashes := Table(g)
	want, all := searchOf(g).table()
	if inWords(table) != inWords(want) || !slices.Equal(clashes, all) {
		t.Fatalf("%s: %s, %v, not %s, %v", spelt(g), inWords(table), clashes, inWords(want), all)
	}
}

func TestTables(t *testing.T) {
	for _, x := range []struct {
		toks, nts    int
		prods, table string
		clashes      []api.Clash
	}{
		// One production.
		{1, 1, "S", "- 0", nil}, {1, 1, "Sa", "0 -", nil}, {2, 1, "Sb", "- 0 -", nil}, {2, 1, "SaS", "0 - -", nil}, {1, 1, "SS", "- -", nil}, {1, 1, "SSa", "- -", nil},
		// One of several, told by the next token.
		{2, 1, "Sa Sb", "0 1 -", nil}, {2, 1, "Sb Sa", "1 0 -", nil}, {3, 1, "Sa Sbb Sc", "0 1 2 -", nil}, {2, 1, "SaS S", "0 - 1", nil}, {2, 1, "S SaS", "1 - 0", nil}, {2, 1, "SaSb S", "0 1 1", nil},
		// What may follow the left side means the one that can be nothing.
		{3, 2, "STc TaT T", "0 - 0 -, 1 - 2 -", nil}, {2, 3, "STU Ta T Ub U", "0 0 0, 1 2 2, - 3 4", nil}, {3, 3, "STU TUU Ua", "0 - - -, 1 - - -, 2 - - -", nil}, {3, 3, "STUc Ta T Ub U", "0 0 0 -, 1 2 2 -, - 3 4 -", nil},
		{2, 3, "STb TU Ua U", "0 0 -, 1 1 -, 2 3 -", nil}, {3, 4, "SaTc TUV Ub U Vc V", "0 - - -, - 1 1 -, - 2 3 -, - - 4 -", []api.Clash{{Nt: 3, Tok: 2, A: 4, B: 5}}},
		// Nonterminals of no productions, that come to no tokens, that nothing comes to.
		{1, 2, "Sa", "0 -, - -", nil}, {1, 2, "T", "- -, - -", nil}, {1, 2, "Ta", "- -, 0 -", nil}, {1, 2, "STa", "- -, - -", nil}, {2, 2, "SaT", "0 - -, - - -", nil}, {2, 2, "Sa TbT T", "0 - -, - 1 -", nil}, {2, 2, "Sa TbTa T", "0 - -, 2 1 -", nil}, {1, 2, "S T T", "- 0, - -", nil},
		// A nonterminal that comes to itself.
		{1, 1, "S SS", "- 0", []api.Clash{{Tok: 1, A: 0, B: 1}}}, {1, 1, "SS S", "- 0", []api.Clash{{Tok: 1, A: 0, B: 1}}}, {2, 1, "SSa Sb", "- 0 -", []api.Clash{{Tok: 1, A: 0, B: 1}}}, {1, 1, "S SSa", "0 0", []api.Clash{{A: 0, B: 1}}}, {1, 1, "S SaS SSa", "0 0", []api.Clash{{A: 0, B: 1}, {A: 0, B: 2}}},
		// Clashes: the first, and each other one; by Nt, Tok, B, not by where the productions stand.
		{1, 1, "Sa Sa", "0 -", []api.Clash{{A: 0, B: 1}}}, {1, 1, "S S S S", "- 0", []api.Clash{{Tok: 1, A: 0, B: 1}, {Tok: 1, A: 0, B: 2}, {Tok: 1, A: 0, B: 3}}},
		{2, 1, "Sb Sa Sb Sa Sb", "1 0 -", []api.Clash{{Tok: 0, A: 1, B: 3}, {Tok: 1, A: 0, B: 2}, {Tok: 1, A: 0, B: 4}}},
		{1, 3, "Ua Ta Sa Ua Ta Sa", "2 -, 1 -, 0 -", []api.Clash{{A: 2, B: 5}, {Nt: 1, A: 1, B: 4}, {Nt: 2, A: 0, B: 3}}},
		{2, 2, "Tb T Tb Ta S T Sa", "6 - 4, 3 0 -", []api.Clash{{Nt: 1, Tok: 1, A: 0, B: 2}}},
		{2, 3, "STa STb Ta T UbU U", "0 1 -, 2 3 -, - 4 -", []api.Clash{{Tok: 0, A: 0, B: 1}, {Nt: 1, Tok: 0, A: 2, B: 3}}},
		{3, 2, "STc TaT T Tac", "0 - 0 -, 1 - 2 -", []api.Clash{{Nt: 1, Tok: 0, A: 1, B: 3}}}, {1, 2, "STa Ta T", "0 -, 1 -", []api.Clash{{Nt: 1, Tok: 0, A: 1, B: 2}}}, {1, 2, "STa T Ta", "0 -, 1 -", []api.Clash{{Nt: 1, Tok: 0, A: 1, B: 2}}},
		{1, 2, "S ST T", "- 0, - 2", []api.Clash{{Tok: 1, A: 0, B: 1}}}, {1, 3, "ST SU T U", "- 0, - 2, - 3", []api.Clash{{Tok: 1, A: 0, B: 1}}},
		// One production that both begins so and is nothing ahead of it is one, and no clash.
		{2, 3, "SUa TU Ua U", "0 - -, 1 - -, 2 - -", []api.Clash{{Nt: 2, Tok: 0, A: 2, B: 3}}}, {2, 3, "STa TU Ua U", "0 - -, 1 - -, 2 - -", []api.Clash{{Nt: 2, Tok: 0, A: 2, B: 3}}},
		// Kinds of tokens that stand nowhere, and the last ones.
		{8, 1, "SaSh S", "0 - - - - - - 1 1", nil}, {8, 8, "SZ Zh", "- - - - - - - 0 -, " + strings.Repeat("- - - - - - - - -, ", 6) + "- - - - - - - 1 -", nil},
	} {
		g := made(x.toks, x.nts, strings.Fields(x.prods)...)
		if !gram.May(g) {
			t.Fatalf("the test has it wrong: %s", x.prods)
		}
		table, clashes := Table(g)
		if inWords(table) != x.table || !slices.Equal(clashes, x.clashes) {
			t.Errorf("%s: %s, %v, not %s, %v", x.prods, inWords(table), clashes, x.table, x.clashes)
		}
		agrees(t, g)
	}
}

// The first production is meant though another one is told too: what the table has hangs on the order, whether there is a clash does not.
func TestOrderOfProductions(t *testing.T) {
	g, h := made(2, 2, "STb", "Ta", "T", "Tb"), made(2, 2, "STb", "Tb", "T", "Ta")
	table, clashes := Table(g)
	other, turned := Table(h)
	if inWords(table) != "0 0 -, 1 2 -" || !slices.Equal(clashes, []api.Clash{{Nt: 1, Tok: 1, A: 2, B: 3}}) {
		t.Errorf("%v, %v", table, clashes)
	}
	if inWords(other) != "0 0 -, 3 1 -" || !slices.Equal(turned, []api.Clash{{Nt: 1, Tok: 1, A: 1, B: 2}}) {
		t.Errorf("%v, %v", other, turned)
	}
}

// A kind of token that is passed over has its place, and means nothing.
func TestSkippedKinds(t *testing.T) {
	g := made(3, 2, "STc", "TaT", "T")
	g.Toks[1].Skip = true
	if table, clashes := Table(g); inWords(table) != "0 - 0 -, 1 - 2 -" || clashes != nil {
		t.Errorf("%v, %v", table, clashes)
	}
	g = made(2, 1, "S")
	g.Toks[0].Skip, g.Toks[1].Skip = true, true
	if table, clashes := Table(g); inWords(table) != "- - 0" || clashes != nil {
		t.Errorf("%v, %v", table, clashes)
	}
}

// All that there may be at once.
func TestGreatest(t *testing.T) {
	prods := strings.Fields("SaTUVW SbTUVW SSSSSS S TcUVWX TTTTTT UdVWXY UUUUUU VeWXYZ VVVVVV WfXYZZ WWWWWW XgYZZZ Xg YhYYYY Z")
	g := made(8, 8, prods...)
	if !gram.May(g) || len(g.Toks) != api.MaxToks || len(g.Nts) != api.MaxNts || len(g.Prods) != api.MaxProds {
		t.Fatal("the test has it wrong")
	}
	agrees(t, g)
	// Sixteen productions of the last nonterminal, all of which might be meant by the last kind and by the end.
	h := made(8, 8, slices.Repeat([]string{"Z"}, 16)...)
	for i := range 8 {
		h.Prods[i].Right = syms("hhhhh")
	}
	h.Prods[0].Right = syms("Shh")
	agrees(t, h)
	k := made(8, 8, slices.Repeat([]string{"S"}, 16)...)
	for i := range k.Prods {
		k.Prods[i].Right = syms("SSSSS")[:i%6]
	}
	table, clashes := Table(k)
	if inWords(table[:1]) != "- - - - - - - - 0" || len(clashes) != 15 || clashes[14] != (api.Clash{Tok: 8, A: 0, B: 15}) {
		t.Errorf("%v, %v", table, clashes)
	}
	agrees(t, k)
	m := made(8, 1, slices.Repeat([]string{"SSaS"}, 15)...) // ambiguous by each kind that its productions begin with, and by the end
	m.Prods = append(m.Prods, api.Prod{})
	for i := range 15 {
		m.Prods[i].Right = syms("S" + string(rune('a'+i%8)) + "S")
	}
	table, clashes = Table(m)
	if inWords(table) != "0 0 0 0 0 0 0 0 15" || len(clashes) != 8*15 {
		t.Errorf("%v, %v", table, clashes)
	}
	agrees(t, m)
}

func TestNotAGrammar(t *testing.T) {
	for i, spoil := range []func(g *api.Grammar){
		func(g *api.Grammar) { *g = api.Grammar{} },
		func(g *api.Grammar) { g.Toks = nil }, func(g *api.Grammar) { g.Nts = nil }, func(g *api.Grammar) { g.Prods = nil }, func(g *api.Grammar) { g.Prods = []api.Prod{} },
		func(g *api.Grammar) { g.Toks[0].Name = "" }, func(g *api.Grammar) { g.Toks[2].Name = "9" }, func(g *api.Grammar) { g.Toks[1].Name = "abcdefghi" },
		func(g *api.Grammar) { g.Nts[0].Name = "S" }, func(g *api.Grammar) { g.Nts[1].Name = "s" }, func(g *api.Grammar) { g.Nts[0].Name = "a" },
		func(g *api.Grammar) { g.Nts[0].Inh = []string{"v", "v"} }, func(g *api.Grammar) { g.Nts[1].Syn = []string{"p", "q", "r", "t", "u"} },
		func(g *api.Grammar) { g.Prods[0].Left = -1 }, func(g *api.Grammar) { g.Prods[2].Left = 2 }, func(g *api.Grammar) { g.Prods[2].Left = math.MaxInt }, func(g *api.Grammar) { g.Prods[3].Left = math.MinInt },
		func(g *api.Grammar) { g.Prods[0].Right[0].At = -1 }, func(g *api.Grammar) { g.Prods[0].Right[0].At = 2 },
		func(g *api.Grammar) { g.Prods[0].Right[1].At = -1 }, func(g *api.Grammar) { g.Prods[0].Right[1].At = 3 }, func(g *api.Grammar) { g.Toks[2].Skip = true },
		func(g *api.Grammar) { g.Prods[1].Right = syms("aaaaaa") },
		func(g *api.Grammar) { g.Prods = make([]api.Prod, 17) }, func(g *api.Grammar) { g.Prods = make([]api.Prod, 1<<20) },
		func(g *api.Grammar) { g.Toks = made(9, 1).Toks }, func(g *api.Grammar) { g.Nts = made(1, 9).Nts }, func(g *api.Grammar) { g.Nts = make([]api.Nt, 1<<20) },
	} {
		g := made(3, 2, "STc", "TaT", "T", "Tac") // with a clash, of which nothing is told
		spoil(&g)
		if gram.May(g) {
			t.Fatalf("the test has it wrong: %d", i)
		}
		if table, clashes := Table(g); table != nil || clashes != nil {
			t.Errorf("%d: %v, %v", i, table, clashes)
		}
	}
}

// Rules, patterns and attributes say nothing of which production it is.
func TestRulesAreNotLookedAt(t *testing.T) {
	g := made(3, 2, "STc", "TaT", "T", "Tac")
	round := api.Expr{Op: 99, Args: make([]api.Expr, 1)}
	round.Args[0] = round
	for i := range g.Prods {
		g.Prods[i].Rules = []api.Rule{{Occ: -1, Attr: 99, E: round}}
	}
	g.Toks[0].Rex, g.Toks[1].Rex, g.Nts[1].Syn = "(", "", []string{"v"}
	if table, clashes := Table(g); inWords(table) != "0 - 0 -, 1 - 2 -" || !slices.Equal(clashes, []api.Clash{{Nt: 1, Tok: 0, A: 1, B: 3}}) {
		t.Errorf("%v, %v", table, clashes)
	}
}
