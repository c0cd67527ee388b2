package gram

import (
	"fmt"
	"math"
	"slices"
	"strings"
	"testing"

	"lemmata/api"
)

// sums is a grammar of sums in brackets: all that there may be is in it, with a kind of token that is passed over, a production of nothing, rules.
func sums() api.Grammar {
	tok := func(at int) api.Sym { return api.Sym{Tok: true, At: at} }
	nt := func(at int) api.Sym { return api.Sym{At: at} }
	return api.Grammar{
		Toks: []api.Tok{{Name: "num", Rex: "[0-9]+"}, {Name: "plus", Rex: "\\+"}, {Name: "blank", Rex: " +", Skip: true}, {Name: "open", Rex: "\\("}, {Name: "close", Rex: "\\)"}},
		Nts:  []api.Nt{{Name: "sum", Syn: []string{"val"}}, {Name: "more", Inh: []string{"left", "deep"}, Syn: []string{"val", "count"}}, {Name: "one", Inh: []string{"deep"}}},
		Prods: []api.Prod{
			{Left: 0, Right: []api.Sym{nt(2), nt(1)}, Rules: []api.Rule{{Occ: 0, Attr: 0, E: api.Expr{Op: api.Ref, Occ: 2, Attr: 2}}}},
			{Left: 1, Right: []api.Sym{tok(1), nt(2), nt(1)}},
			{Left: 1},
			{Left: 2, Right: []api.Sym{tok(0)}},
			{Left: 2, Right: []api.Sym{tok(3), nt(0), tok(4)}},
		},
	}
}

func changed(f func(g *api.Grammar)) api.Grammar {
	g := sums()
	f(&g)
	return g
}

func many[T any](n int, of func(i int) T) (l []T) {
	for i := range n {
		l = append(l, of(i))
	}
	return l
}

func numberedName(i int) string { return fmt.Sprint("x", i) }

// held asks May, and holds it against what there is to be found wrong.
func held(t *testing.T, g api.Grammar, want bool) {
	t.Helper()
	if wrong := fault(g); (wrong == "") != want {
		t.Fatalf("the test has it wrong: %q of %v", wrong, g)
	}
	if May(g) != want {
		t.Errorf("%v, not %v, of %v", !want, want, g)
	}
}

func TestMay(t *testing.T) {
	held(t, sums(), true)
	held(t, api.Grammar{}, false)
	least := api.Grammar{Toks: []api.Tok{{Name: "a", Rex: "a"}}, Nts: []api.Nt{{Name: "s"}}, Prods: make([]api.Prod, 1)}
	held(t, least, true)
	least.Toks[0].Skip = true // a text of nothing then
	held(t, least, true)
	held(t, changed(func(g *api.Grammar) { g.Prods = g.Prods[:1] }), true)   // a nonterminal may have no production
	held(t, changed(func(g *api.Grammar) { g.Prods = g.Prods[1:] }), true)   // nonterminal 0, too
	held(t, changed(func(g *api.Grammar) { g.Prods[4] = g.Prods[3] }), true) // a production may be there twice
}

func TestMayNumbers(t *testing.T) {
	for n := range 40 {
		held(t, changed(func(g *api.Grammar) {
			// None that a production has may go: it stands in one.
			g.Prods = make([]api.Prod, 1)
			g.Toks = many(n, func(i int) api.Tok { return api.Tok{Name: numberedName(i)} })
		}), n >= 1 && n <= 8)
		held(t, changed(func(g *api.Grammar) {
			g.Prods = make([]api.Prod, 1)
			g.Nts = many(n, func(i int) api.Nt { return api.Nt{Name: numberedName(i)} })
		}), n >= 1 && n <= 8)
		held(t, changed(func(g *api.Grammar) { g.Prods = make([]api.Prod, n) }), n >= 1 && n <= 16)
		held(t, changed(func(g *api.Grammar) { g.Prods[4].Right = make([]api.Sym, n) }), n <= 5)
		for inh := range n + 1 {
			l := many(n, numberedName)
			held(t, changed(func(g *api.Grammar) { g.Nts[2].Inh, g.Nts[2].Syn = l[:inh], l[inh:] }), n <= 4)
		}
	}
	// All that there may be at once.
	full := api.Grammar{
		Toks: many(8, func(i int) api.Tok { return api.Tok{Name: fmt.Sprintf("tokens%d%d", i, i)} }),
		Nts: many(8, func(i int) api.Nt {
			return api.Nt{Name: fmt.Sprintf("nonter%d%d", i, i), Inh: many(i%5, numberedName), Syn: many(4-i%5, func(k int) string { return numberedName(9 - k) })}
		}),
		Prods: many(16, func(i int) api.Prod {
			return api.Prod{Left: i / 2, Right: many(5, func(k int) api.Sym { return api.Sym{Tok: (i+k)%2 == 0, At: 7 - k} })}
		}),
	}
	held(t, full, true)
	full.Nts[7].Inh = append(full.Nts[7].Inh, "one")
	held(t, full, false)
}

func texts() (l []string) {
	for a := range 256 {
		l = append(l, string([]byte{byte(a)}))
		for b := range 256 {
			l = append(l, string([]byte{byte(a), byte(b)}))
		}
	}
	for n := range 12 {
		l = append(l, strings.Repeat("q", n), strings.Repeat("z9", n), "9"+strings.Repeat("q", n), strings.Repeat("q", n)+"Q", strings.Repeat("ä", n))
	}
	return append(l, "a b", "a\nb", "ab\n", "\nab", "ab\x00", "a-b", "ab_c", "_abc", "Abc", "abC", "a.b", "é", "aé", "a٣", "1", "12", "0a", "zz9zz9zz", "zz9zz9zzz", strings.Repeat("a", 1<<16))
}

func TestMayNames(t *testing.T) {
	for _, s := range texts() {
		want := !badName(s)
		for _, put := range []func(g *api.Grammar){
			func(g *api.Grammar) { g.Toks[0].Name = s },
			func(g *api.Grammar) { g.Toks[2].Name = s }, // one that is passed over
			func(g *api.Grammar) { g.Nts[1].Name = s },
			func(g *api.Grammar) { g.Nts[1].Inh[1] = s },
			func(g *api.Grammar) { g.Nts[1].Syn[1] = s },
		} {
			if got := May(changed(put)); got != want {
				t.Fatalf("%q: %v", s, got)
			}
		}
	}
	for s, want := range map[string]bool{"a": true, "z": true, "m5": true, "abcdefgh": true, "a1234567": true, "abcdefghi": false, "": false, "5": false, "5m": false, "A": false, "aB": false, "a_": false, "a\xff": false} {
		if badName(s) == want {
			t.Errorf("the test has it wrong: %q", s)
		}
	}
}

func TestMayNamesUnlike(t *testing.T) {
	size := len(sums().Toks) + len(sums().Nts)
	at := func(g *api.Grammar, i int) *string {
		if i < len(g.Toks) {
			return &g.Toks[i].Name
		}
		return &g.Nts[i-len(g.Toks)].Name
	}
	for i := range size {
		for k := range size {
			held(t, changed(func(g *api.Grammar) { *at(g, i) = *at(g, k) }), i == k)
		}
	}
	// Those of one nonterminal's attributes only; those of another, and all other names, may be like them.
	for i := range 4 {
		for k := range 4 {
			l := []string{"p", "q", "r", "s"}
			l[i] = l[k]
			for inh := range 5 {
				held(t, changed(func(g *api.Grammar) { g.Nts[1].Inh, g.Nts[1].Syn = l[:inh], l[inh:] }), i == k)
			}
		}
	}
	held(t, changed(func(g *api.Grammar) { g.Nts[0].Syn = []string{"num", "sum", "blank", "left"} }), true)
	held(t, changed(func(g *api.Grammar) { g.Toks[0].Rex = g.Toks[1].Rex }), true) // a pattern is no name
}

func TestMayProductions(t *testing.T) {
	for _, at := range []int{math.MinInt, -9, -2, -1, 0, 1, 2, 3, 4, 5, 6, 7, 8, 9, math.MaxInt} {
		for prod := range 5 {
			held(t, changed(func(g *api.Grammar) { g.Prods[prod].Left = at }), at >= 0 && at < 3)
		}
		for place := range 3 {
			for prod := range 5 {
				if place >= len(sums().Prods[prod].Right) {
					continue
				}
				held(t, changed(func(g *api.Grammar) { g.Prods[prod].Right[place] = api.Sym{At: at} }), at >= 0 && at < 3)
				held(t, changed(func(g *api.Grammar) { g.Prods[prod].Right[place] = api.Sym{Tok: true, At: at} }), at >= 0 && at < 5 && at != 2)
			}
		}
	}
	held(t, changed(func(g *api.Grammar) { g.Toks[0].Skip = true }), false)
	held(t, changed(func(g *api.Grammar) { g.Toks[2].Skip = false }), true)
}

// What stands in spare room alone is not there.
func TestMayWithinTheLists(t *testing.T) {
	held(t, changed(func(g *api.Grammar) { g.Toks = g.Toks[:4] }), false)
	held(t, changed(func(g *api.Grammar) { g.Nts = g.Nts[:2] }), false)
	held(t, changed(func(g *api.Grammar) {
		g.Prods = append(g.Prods, api.Prod{Left: 77})[:5]
		g.Prods[1].Right = append(g.Prods[1].Right, make([]api.Sym, 9)...)[:3]
		g.Nts[0].Syn = append(g.Nts[0].Syn, "val", "val")[:1]
	}), true)
}

func TestMayLooksNotAtRulesOrPatterns(t *testing.T) {
	round := api.Expr{Op: 99, Args: make([]api.Expr, 1)}
	round.Args[0] = round
	held(t, changed(func(g *api.Grammar) {
		for i := range g.Prods {
			g.Prods[i].Rules = many(99, func(k int) api.Rule { return api.Rule{Occ: k - 9, Attr: -k, E: round} })
		}
		for i, rex := range []string{"", "(", "[b-a]", "\xff", strings.Repeat("a", 999)} {
			g.Toks[i].Rex = rex
		}
	}), true)
}

func TestSame(t *testing.T) {
	others := []func(g *api.Grammar){
		func(g *api.Grammar) { g.Toks[0].Name = "nun" }, func(g *api.Grammar) { g.Toks[4].Name = "" },
		func(g *api.Grammar) { g.Toks[0].Rex = "" }, func(g *api.Grammar) { g.Toks[4].Rex += "?" },
		func(g *api.Grammar) { g.Toks[0].Skip = true }, func(g *api.Grammar) { g.Toks[2].Skip = false },
		func(g *api.Grammar) { g.Toks[0], g.Toks[1] = g.Toks[1], g.Toks[0] },
		func(g *api.Grammar) { g.Toks = nil }, func(g *api.Grammar) { g.Toks = g.Toks[:4] }, func(g *api.Grammar) { g.Toks = append(g.Toks, api.Tok{}) },
		func(g *api.Grammar) { g.Nts[0].Name = "" }, func(g *api.Grammar) { g.Nts[2].Name = "ones" },
		func(g *api.Grammar) { g.Nts[1].Inh[1] = "left" }, func(g *api.Grammar) { g.Nts[1].Syn[1] = "m" },
		func(g *api.Grammar) { g.Nts[1].Inh = []string{"deep", "left"} }, func(g *api.Grammar) { g.Nts[1].Inh = g.Nts[1].Inh[:1] }, func(g *api.Grammar) { g.Nts[1].Inh = nil },
		func(g *api.Grammar) { g.Nts[1].Syn = append(g.Nts[1].Syn, "") }, func(g *api.Grammar) { g.Nts[2].Syn = append(g.Nts[2].Syn, "") }, func(g *api.Grammar) { g.Nts[0].Syn = nil },
		// another one of the attributes comes from above
		func(g *api.Grammar) { g.Nts[0].Inh, g.Nts[0].Syn = g.Nts[0].Syn, nil }, func(g *api.Grammar) { g.Nts[2].Inh, g.Nts[2].Syn = nil, g.Nts[2].Inh },
		func(g *api.Grammar) {
			g.Nts[1].Inh, g.Nts[1].Syn = []string{"left"}, append([]string{"deep"}, g.Nts[1].Syn...)
		},
		func(g *api.Grammar) { g.Nts = nil }, func(g *api.Grammar) { g.Nts = g.Nts[:2] }, func(g *api.Grammar) { g.Nts = append(g.Nts, api.Nt{}) }, func(g *api.Grammar) { g.Nts[0], g.Nts[1] = g.Nts[1], g.Nts[0] },
		func(g *api.Grammar) { g.Prods[0].Left = 1 }, func(g *api.Grammar) { g.Prods[4].Left = -1 },
		func(g *api.Grammar) { g.Prods[4].Right[2].At = 3 }, func(g *api.Grammar) { g.Prods[4].Right[2].Tok = false }, func(g *api.Grammar) { g.Prods[0].Right[0].Tok = true },
		func(g *api.Grammar) { g.Prods[4].Right = g.Prods[4].Right[:2] }, func(g *api.Grammar) { g.Prods[2].Right = make([]api.Sym, 1) }, func(g *api.Grammar) { g.Prods[3].Right = nil },
		func(g *api.Grammar) { g.Prods = nil }, func(g *api.Grammar) { g.Prods = g.Prods[:4] }, func(g *api.Grammar) { g.Prods = append(g.Prods, api.Prod{}) }, func(g *api.Grammar) { g.Prods[2], g.Prods[3] = g.Prods[3], g.Prods[2] },
		func(g *api.Grammar) { *g = api.Grammar{} },
	}
	alikes := []func(g *api.Grammar){
		func(g *api.Grammar) {},
		func(g *api.Grammar) { g.Prods[0].Rules = nil }, func(g *api.Grammar) { g.Prods[0].Rules[0].E.Op = 99 }, func(g *api.Grammar) { g.Prods[2].Rules = make([]api.Rule, 3) },
		// nil and an empty list are one
		func(g *api.Grammar) {
			g.Nts[0].Inh, g.Nts[2].Syn, g.Prods[2].Right = []string{}, []string{}, []api.Sym{}
		},
		// spare room is not there
		func(g *api.Grammar) {
			g.Toks, g.Prods = append(g.Toks, api.Tok{})[:5], append(g.Prods, api.Prod{})[:5:5]
		},
	}
	for i, f := range others {
		for k, h := range alikes {
			if a, b := changed(f), changed(h); Same(a, b) || Same(b, a) || alike(a, b) {
				t.Errorf("%d, %d: they are not alike", i, k)
			}
		}
		for k, h := range others {
			if a, b := changed(f), changed(h); Same(a, b) != alike(a, b) || i == k && !Same(a, b) {
				t.Errorf("others %d, %d: %v", i, k, Same(a, b))
			}
		}
	}
	for i, f := range alikes {
		for k, h := range alikes {
			if a, b := changed(f), changed(h); !Same(a, b) || !alike(a, b) {
				t.Errorf("%d, %d: they are alike", i, k)
			}
		}
	}
	if empty := (api.Grammar{Toks: []api.Tok{}, Nts: []api.Nt{}, Prods: []api.Prod{}}); !Same(empty, api.Grammar{}) || !Same(api.Grammar{}, api.Grammar{}) {
		t.Error("nothing is alike to nothing")
	}
}

func TestOffset(t *testing.T) {
	for nt, want := range map[int][]int{0: {0}, 1: {1, 2}, 2: {3, 4}, 3: nil, -1: nil, math.MinInt: nil, math.MaxInt: nil} {
		if got := Offset(sums(), nt); !slices.Equal(got, want) {
			t.Errorf("%d: %v", nt, got)
		}
	}
	// They need not stand together.
	for rows := range 1 << 8 {
		g := changed(func(g *api.Grammar) {
			g.Prods = many(8, func(i int) api.Prod { return api.Prod{Left: 2 * (rows >> i & 1)} })
		})
		for nt := -1; nt < 5; nt++ {
			if got, want := Offset(g, nt), offsets(g)[nt]; !slices.Equal(got, want) {
				t.Fatalf("%d of %b: %v, not %v", nt, rows, got, want)
			}
		}
	}
	one := changed(func(g *api.Grammar) { g.Prods = make([]api.Prod, api.MaxProds) })
	if got := Offset(one, 0); !slices.Equal(got, many(api.MaxProds, func(i int) int { return i })) || len(Offset(one, 1)) != 0 {
		t.Errorf("%v", got)
	}
	if len(Offset(api.Grammar{}, 0)) != 0 {
		t.Error("of no grammar")
	}
}

// Each production has its place: that of its left side, and no other.
func TestEachProductionHasItsPlace(t *testing.T) {
	g := sums()
	var all []int
	for nt := range g.Nts {
		l := Offset(g, nt)
		for _, place := range l {
			if g.Prods[place].Left != nt {
				t.Errorf("%d of %d", place, nt)
			}
		}
		all = append(all, l...)
	}
	if slices.Sort(all); !slices.Equal(all, many(len(g.Prods), func(i int) int { return i })) {
		t.Errorf("%v", all)
	}
}
