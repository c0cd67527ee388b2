package gram

import (
	"math/rand"
	"slices"
	"testing"

	"lemmata/api"
)

// maker makes grammars most of which have one thing wrong at most.
type maker struct {
	*rand.Rand
}

func (m maker) name() string {
	const letters = "abyz09"
	s := letters[m.Intn(4):][:1]
	for range m.Intn(3) {
		s += letters[m.Intn(6):][:1]
	}
	if m.Intn(60) == 0 {
		s = []string{"", "9a", "aZ", "abcdefghi", "a b", "{", "`"}[m.Intn(7)]
	}
	return s
}

func (m maker) unlikeNames(n int) (l []string) {
	for len(l) < n {
		if s := m.name(); !slices.Contains(l, s) || m.Intn(40) == 0 {
			l = append(l, s)
		}
	}
	return l
}

// number is one of those that a limit leaves, or one beside it.
func (m maker) number(least, most int) int {
	if m.Intn(30) == 0 {
		return []int{least - 1, most + 1}[m.Intn(2)]
	}
	return least + m.Intn(most-least+1)
}

func (m maker) grammar() (g api.Grammar) {
	toks, nts := m.number(1, 8), m.number(1, 8)
	names := m.unlikeNames(toks + nts)
	for i := range toks {
		g.Toks = append(g.Toks, api.Tok{Name: names[i], Rex: names[m.Intn(len(names))], Skip: m.Intn(12) == 0})
	}
	for i := range nts {
		attrs := m.unlikeNames(max(0, m.number(0, 4)))
		inh := m.Intn(len(attrs) + 1)
		g.Nts = append(g.Nts, api.Nt{Name: names[toks+i], Inh: attrs[:inh:inh], Syn: attrs[inh:]})
	}
	for range max(0, m.number(1, 16)) {
		p := api.Prod{Left: m.place(nts), Rules: make([]api.Rule, m.Intn(3))}
		for range max(0, m.number(0, 5)) {
			p.Right = append(p.Right, m.sym(g.Toks, nts))
		}
		g.Prods = append(g.Prods, p)
	}
	return g
}

func (m maker) place(n int) int {
	if m.Intn(200) == 0 || n == 0 {
		return []int{-1, n}[m.Intn(2)]
	}
	return m.Intn(n)
}

func (m maker) sym(toks []api.Tok, nts int) api.Sym {
	s := api.Sym{Tok: m.Intn(2) == 0}
	if s.Tok {
		if s.At = m.place(len(toks)); s.At >= 0 && s.At < len(toks) && toks[s.At].Skip && m.Intn(20) > 0 {
			s = api.Sym{}
		}
		return s
	}
	s.At = m.place(nts)
	return s
}

// touched changes one thing, or nothing: a rule, or a thing that is as it was.
func (m maker) touched(g *api.Grammar) {
	if len(g.Toks) > 0 && m.Intn(4) == 0 {
		g.Toks[m.Intn(len(g.Toks))] = api.Tok{Name: m.name(), Rex: m.name(), Skip: m.Intn(2) == 0}
	}
	if len(g.Nts) > 0 && m.Intn(4) == 0 {
		nt := &g.Nts[m.Intn(len(g.Nts))]
		nt.Inh, nt.Syn = nt.Syn, nt.Inh
	}
	if len(g.Prods) > 0 {
		p := &g.Prods[m.Intn(len(g.Prods))]
		if len(p.Right) > 0 && m.Intn(4) == 0 {
			p.Right[m.Intn(len(p.Right))] = m.sym(g.Toks, len(g.Nts))
		}
		if m.Intn(4) == 0 {
			p.Left = m.place(len(g.Nts))
		}
		p.Rules = make([]api.Rule, m.Intn(3))
	}
}

func TestRandomGrammars(t *testing.T) {
	m := maker{rand.New(rand.NewSource(11))}
	wrongs, pairs := map[string]int{}, [2]int{}
	for range 40000 {
		g := m.grammar()
		wrong := fault(g)
		if wrongs[wrong]++; May(g) != (wrong == "") {
			t.Fatalf("%v of %v: %q", May(g), g, wrong)
		}
		for nt := -2; nt < 10; nt++ {
			if got, want := Offset(g, nt), offsets(g)[nt]; !slices.Equal(got, want) {
				t.Fatalf("%d of %v: %v, not %v", nt, g, got, want)
			}
		}
		h := copied(g, true)
		m.touched(&h)
		want := alike(g, h)
		if Same(g, h) != want || Same(h, g) != want {
			t.Fatalf("%v %v of %v, %v", Same(g, h), Same(h, g), g, h)
		}
		if want {
			pairs[0]++
		} else {
			pairs[1]++
		}
	}
	// Each thing that may be wrong came up.
	for _, wrong := range []string{"", "numbers", "attributes", "names", "productions", "symbols"} {
		if wrongs[wrong] < 500 {
			t.Errorf("%q: only %d", wrong, wrongs[wrong])
		}
	}
	if min(pairs[0], pairs[1]) < 2000 {
		t.Errorf("%v pairs", pairs)
	}
}

// All grammars of at most two kinds of tokens, two nonterminals, and one production of at most two symbols.
func TestSmallGrammars(t *testing.T) {
	var syms []api.Sym
	for at := -1; at < 3; at++ {
		syms = append(syms, api.Sym{At: at}, api.Sym{Tok: true, At: at})
	}
	rights := [][]api.Sym{nil}
	for _, a := range syms {
		rights = append(rights, []api.Sym{a})
		for _, b := range syms {
			rights = append(rights, []api.Sym{a, b})
		}
	}
	for toks := range 3 {
		for nts := range 3 {
			for skip := range 1 << toks {
				for left := -1; left < 3; left++ {
					for _, right := range rights {
						g := api.Grammar{
							Toks:  many(toks, func(i int) api.Tok { return api.Tok{Name: "t" + numberedName(i), Skip: skip>>i&1 == 1} }),
							Nts:   many(nts, func(i int) api.Nt { return api.Nt{Name: numberedName(i)} }),
							Prods: []api.Prod{{Left: left, Right: right}},
						}
						if May(g) != (fault(g) == "") {
							t.Fatalf("%v of %v", May(g), g)
						}
					}
				}
			}
		}
	}
}
