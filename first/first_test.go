package first

import (
	"cmp"
	"math"
	"slices"
	"strings"
	"testing"

	"lemmata/api"
	"lemmata/gram"
)

// sets is what there is to be told of a grammar, in short: each nonterminal's set a word, "-" one that has nothing; of Nullable the letters of those that can be nothing.
type sets struct {
	null, first, follow string
}

func words(l [][]bool, n int) string {
	var all []string
	for _, s := range l {
		all = append(all, cmp.Or(said(s, n), "-"))
	}
	return strings.Join(all, " ")
}

func told(t *testing.T, g api.Grammar) (s sets) {
	t.Helper()
	null, first, follow := Nullable(g), First(g), Follow(g)
	if len(null) != len(g.Nts) || len(first) != len(g.Nts) || len(follow) != len(g.Nts) {
		t.Fatalf("%s: %v, %v, %v", spelt(g), null, first, follow)
	}
	for nt := range g.Nts {
		if null[nt] {
			s.null += string(rune('S' + nt))
		}
		if len(first[nt]) != len(g.Toks) || len(follow[nt]) != len(g.Toks)+1 {
			t.Fatalf("%s: %v, %v", spelt(g), first, follow)
		}
	}
	s.first, s.follow = words(first, len(g.Toks)), words(follow, len(g.Toks))
	return s
}

func TestSets(t *testing.T) {
	for _, x := range []struct {
		toks, nts int
		prods     string
		want      sets
	}{
		// One production.
		{1, 1, "S", sets{"S", "-", "$"}}, {1, 1, "Sa", sets{"", "a", "$"}}, {1, 1, "SS", sets{"", "-", "$"}}, {1, 1, "SaS", sets{"", "a", "$"}}, {1, 1, "SSa", sets{"", "-", "a$"}}, {1, 1, "SSS", sets{"", "-", "$"}}, {2, 1, "SaSb", sets{"", "a", "b$"}},
		// A nonterminal that comes to itself, and more.
		{1, 1, "S SS", sets{"S", "-", "$"}}, {1, 1, "S SaS", sets{"S", "a", "$"}}, {1, 1, "S SSa", sets{"S", "a", "a$"}}, {2, 1, "S SaSb", sets{"S", "a", "b$"}}, {2, 1, "SSaS Sb", sets{"", "b", "a$"}}, {1, 1, "SSS Sa", sets{"", "a", "a$"}}, {1, 1, "SSS Sa S", sets{"S", "a", "a$"}},
		// What stands behind what can be nothing.
		{2, 3, "STU Ta T Ub U", sets{"STU", "ab a b", "$ b$ $"}}, {2, 3, "STU Ta T Ub", sets{"T", "ab a b", "$ b $"}}, {2, 3, "STU Ta Ub U", sets{"U", "a a b", "$ b$ $"}}, {3, 3, "STc TUU Ua U", sets{"TU", "ac a a", "$ c ac"}},
		{5, 5, "STUVWe Ta T Ub U Vc V Wd W", sets{"TUVW", "abcde a b c d", "$ bcde cde de e"}}, {5, 5, "STUVWe Ta T Ub Vc V Wd W", sets{"TVW", "ab a b c d", "$ b cde de e"}},
		// What follows the left side, more than one step up.
		{2, 4, "STb TU UV Va V", sets{"TUV", "ab a a a", "$ b b b"}}, {3, 4, "STb TUS UV Va V S", sets{"STUV", "ab ab a a", "b$ b ab ab"}}, {1, 2, "ST TS Ta", sets{"", "a a", "$ $"}}, {2, 3, "SaT TUS Ub", sets{"", "a b b", "$ $ a"}}, {2, 3, "ST TaUT T U", sets{"STU", "a a -", "$ $ a$"}},
		// Nonterminals that nothing comes to, that come to no tokens, without any production.
		{1, 2, "Sa", sets{"", "a -", "$ -"}}, {1, 2, "T", sets{"T", "- -", "$ -"}}, {2, 2, "Sa TbT T", sets{"T", "a b", "$ -"}}, {2, 2, "SaT TbT", sets{"", "a b", "$ $"}}, {1, 2, "S TSa", sets{"S", "- a", "a$ -"}}, {1, 2, "STa", sets{"", "- -", "$ a"}}, {2, 3, "Sa TUb U", sets{"U", "a b -", "$ - b"}}, {2, 3, "STT TaUb UT UbS", sets{"", "a a ab", "b$ ab$ b"}},
		// The same production twice, and kinds of tokens that stand nowhere.
		{1, 1, "Sa Sa", sets{"", "a", "$"}}, {8, 1, "SaSh S", sets{"S", "a", "h$"}}, {8, 8, "SZ Zh", sets{"", "h - - - - - - h", "$ - - - - - - $"}},
	} {
		g := made(x.toks, x.nts, strings.Fields(x.prods)...)
		if !gram.May(g) {
			t.Fatalf("the test has it wrong: %s", x.prods)
		}
		if got := told(t, g); got != x.want {
			t.Errorf("%s: %v, not %v", x.prods, got, x.want)
		}
		held(t, g)
	}
}

// held holds all that is told of g against what a search finds.
func held(t *testing.T, g api.Grammar) {
	t.Helper()
	s := search{g}
	want := sets{"", words(s.first(), len(g.Toks)), words(s.follow(), len(g.Toks))}
	for nt, can := range s.nullable() {
		if can {
			want.null += string(rune('S' + nt))
		}
	}
	if got := told(t, g); got != want {
		t.Fatalf("%s: %v, not %v", spelt(g), got, want)
	}
}

func TestOrderOfProductions(t *testing.T) {
	// Each step up needs another round, in one of the two orders.
	l := strings.Fields("Z Za YZ XYZ WXXX VbWW UV TUV STc")
	want := sets{"WXYZ", "b b b b a a a a", "$ c b bc abc abc abc abc"}
	g := made(3, 8, l...)
	slices.Reverse(l)
	h := made(3, 8, l...)
	if a, b := told(t, g), told(t, h); a != want || b != want {
		t.Errorf("%v, %v", a, b)
	}
	held(t, g)
	held(t, h)
}

func TestRow(t *testing.T) {
	g := made(3, 4, "STU", "Ta", "T", "Ub", "U", "VVc")
	for s, want := range map[string]string{
		"": "?", "a": "a", "b": "b", "c": "c", "ab": "a", "S": "ab?", "T": "a?", "U": "b?", "V": "", "Sa": "ab", "Sb": "ab", "Sc": "abc", "SS": "ab?", "TT": "a?", "TU": "ab?", "UT": "ab?", "Tb": "ab", "TTTc": "ac", "cS": "c", "SUT": "ab?", "STUc": "abc",
		"V?": "", "aV": "a", "TV": "a", "TVb": "a", "VT": "", "TaU": "a", "UaT": "ab", "TUSTUSTUST": "ab?", "TUSTUSTUSTc": "abc",
	} {
		l, null := Row(g, syms(strings.TrimSuffix(s, "?")))
		got := said(l, 3)
		if null {
			got += "?"
		}
		if got != want || len(l) != 3 {
			t.Errorf("%q: %s of %v, not %s", s, got, l, want)
		}
	}
}

// Row of a nonterminal alone is what First and Nullable tell; that of a right side, what they tell of its left one has.
func TestRowAndTheRest(t *testing.T) {
	g := made(3, 4, "STU", "Ta", "T", "Ub", "U", "VVc", "Vb")
	for nt := range g.Nts {
		l, null := Row(g, []api.Sym{{At: nt}})
		if !slices.Equal(l, First(g)[nt]) || null != Nullable(g)[nt] {
			t.Errorf("%d: %v, %v", nt, l, null)
		}
	}
	for _, p := range g.Prods {
		l, null := Row(g, p.Right)
		for kind, is := range l {
			if is && !First(g)[p.Left][kind] || null && !Nullable(g)[p.Left] {
				t.Errorf("%v: %v, %v", p, l, null)
			}
		}
	}
}

// A kind of token that is passed over has its place in all rows; nothing in the grammar begins with it.
func TestSkippedKinds(t *testing.T) {
	g := made(3, 2, "STc", "TaT", "T")
	g.Toks[1].Skip = true
	if got, want := told(t, g), (sets{"T", "ac a", "$ c"}); got != want {
		t.Errorf("%v", got)
	}
	if l, null := Row(g, syms("Tb")); said(l, 3) != "ab" || null {
		t.Errorf("%v, %v", l, null)
	}
}

// Symbols that the grammar has not: what stands ahead of them counts, what stands behind them does not.
func TestRowOfNoSymbols(t *testing.T) {
	g := made(3, 2, "STc", "TaT", "T")
	for _, at := range []int{math.MinInt, -9, -1, 2, 3, 4, 7, 8, 9, 10, 64, math.MaxInt} {
		for _, bad := range []api.Sym{{At: at}, {Tok: true, At: at}} {
			if bad.Tok && at == 2 {
				continue
			}
			for ahead, want := range map[string]string{"": "", "T": "a", "a": "a", "c": "c", "S": "ac", "TT": "a"} {
				l, null := Row(g, slices.Concat(syms(ahead), []api.Sym{bad}, syms("b")))
				if said(l, 3) != want || len(l) != 3 || null {
					t.Errorf("%q, %v: %v, %v", ahead, bad, l, null)
				}
			}
		}
	}
}

func TestRowOfMany(t *testing.T) {
	g := made(3, 2, "STc", "TaT", "T")
	l := make([]api.Sym, 1<<20)
	for i := range l {
		l[i].At = 1
	}
	if row, null := Row(g, l); said(row, 3) != "a" || !null {
		t.Errorf("%v, %v", row, null)
	}
	l[len(l)-1] = api.Sym{Tok: true, At: 1}
	if row, null := Row(g, l); said(row, 3) != "ab" || null {
		t.Errorf("%v, %v", row, null)
	}
}

// All that there may be at once.
func TestGreatest(t *testing.T) {
	g := made(8, 8, "STUVWX", "SaSTUV", "TYYYYY", "TbTcTd", "UZZZZZ", "UZZZZe", "VTUTUf", "V", "WXYZWX", "WVWVWh", "XgXgXg", "XWWWWW", "YZYZYZ", "Y", "ZhYhY", "ZVVVVV")
	for i := range g.Prods {
		g.Prods[i].Right = append(g.Prods[i].Right, syms("ZZZZZ")...)[:5]
	}
	if !gram.May(g) || len(g.Toks) != api.MaxToks || len(g.Nts) != api.MaxNts || len(g.Prods) != api.MaxProds {
		t.Fatal("the test has it wrong")
	}
	held(t, g)
	// The eighth kind, the last nonterminal, the last production, the fifth place.
	h := made(8, 8, strings.Fields("S S S S S S S S S S S S S S SZZZZZ Zh")...)
	if got, want := told(t, h), (sets{"S", "h - - - - - - h", "$ - - - - - - h$"}); got != want {
		t.Errorf("%v", got)
	}
}

func TestNotAGrammar(t *testing.T) {
	for i, spoil := range []func(g *api.Grammar){
		func(g *api.Grammar) { *g = api.Grammar{} },
		func(g *api.Grammar) { g.Toks = nil }, func(g *api.Grammar) { g.Nts = nil }, func(g *api.Grammar) { g.Prods = nil }, func(g *api.Grammar) { g.Prods = []api.Prod{} },
		func(g *api.Grammar) { g.Toks[0].Name = "" }, func(g *api.Grammar) { g.Toks[2].Name = "9" }, func(g *api.Grammar) { g.Toks[1].Name = "abcdefghi" },
		func(g *api.Grammar) { g.Nts[0].Name = "S" }, func(g *api.Grammar) { g.Nts[1].Name = "s" }, func(g *api.Grammar) { g.Nts[0].Name = "a" },
		func(g *api.Grammar) { g.Nts[0].Inh = []string{"v", "v"} }, func(g *api.Grammar) { g.Nts[1].Syn = []string{"p", "q", "r", "t", "u"} },
		func(g *api.Grammar) { g.Prods[0].Left = -1 }, func(g *api.Grammar) { g.Prods[2].Left = 2 }, func(g *api.Grammar) { g.Prods[2].Left = math.MaxInt },
		func(g *api.Grammar) { g.Prods[0].Right[0].At = -1 }, func(g *api.Grammar) { g.Prods[0].Right[0].At = 2 },
		func(g *api.Grammar) { g.Prods[0].Right[1].At = -1 }, func(g *api.Grammar) { g.Prods[0].Right[1].At = 3 }, func(g *api.Grammar) { g.Toks[2].Skip = true },
		func(g *api.Grammar) { g.Prods[1].Right = syms("aaaaaa") },
		func(g *api.Grammar) { g.Prods = make([]api.Prod, 17) }, func(g *api.Grammar) { g.Prods = make([]api.Prod, 1<<20) },
		func(g *api.Grammar) { g.Toks = made(9, 1).Toks }, func(g *api.Grammar) { g.Nts = made(1, 9).Nts }, func(g *api.Grammar) { g.Nts = make([]api.Nt, 1<<20) },
	} {
		g := made(3, 2, "STc", "TaT", "T")
		g.Prods = slices.Clone(g.Prods)
		spoil(&g)
		if gram.May(g) {
			t.Fatalf("the test has it wrong: %d", i)
		}
		for _, right := range [][]api.Sym{nil, syms("a"), syms("T"), {{At: -1}}} {
			if l, null := Row(g, right); l != nil || null {
				t.Errorf("%d: %v: %v, %v", i, right, l, null)
			}
		}
		if Nullable(g) != nil || First(g) != nil || Follow(g) != nil {
			t.Errorf("%d: %v, %v, %v", i, Nullable(g), First(g), Follow(g))
		}
	}
}

// Rules, patterns and attributes say nothing of what may begin.
func TestRulesAreNotLookedAt(t *testing.T) {
	g := made(3, 2, "STc", "TaT", "T")
	want := told(t, g)
	round := api.Expr{Op: 99, Args: make([]api.Expr, 1)}
	round.Args[0] = round
	for i := range g.Prods {
		g.Prods[i].Rules = []api.Rule{{Occ: -1, Attr: 99, E: round}}
	}
	g.Toks[0].Rex, g.Toks[1].Rex, g.Nts[1].Syn = "(", "", []string{"v"}
	if got := told(t, g); got != want {
		t.Errorf("%v", got)
	}
}
