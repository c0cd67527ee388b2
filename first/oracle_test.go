package first

import (
	"slices"
	"strings"

	"lemmata/api"
)

// made is a grammar of so many kinds of tokens (a, b, ..) and nonterminals (S, T, ..); each production is its left side and those of its right one.
func made(toks, nts int, prods ...string) (g api.Grammar) {
	for i := range toks {
		g.Toks = append(g.Toks, api.Tok{Name: string(rune('a' + i)), Rex: string(rune('a' + i))})
	}
	for i := range nts {
		g.Nts = append(g.Nts, api.Nt{Name: string(rune('s' + i))})
	}
	for _, s := range prods {
		g.Prods = append(g.Prods, api.Prod{Left: int(s[0] - 'S'), Right: syms(s[1:])})
	}
	return g
}

func syms(s string) (l []api.Sym) {
	for i := range len(s) {
		if s[i] >= 'a' {
			l = append(l, api.Sym{Tok: true, At: int(s[i] - 'a')})
		} else {
			l = append(l, api.Sym{At: int(s[i] - 'S')})
		}
	}
	return l
}

// spelt is g's productions as made takes them.
func spelt(g api.Grammar) string {
	var l []string
	for _, p := range g.Prods {
		s := string(rune('S' + p.Left))
		for _, sym := range p.Right {
			if sym.Tok {
				s += string(rune('a' + sym.At))
			} else {
				s += string(rune('S' + sym.At))
			}
		}
		l = append(l, s)
	}
	return strings.Join(l, " ")
}

// said is what stands in l: kinds by their letters, the end (place n) as $.
func said(l []bool, n int) (s string) {
	for i, is := range l {
		switch {
		case is && i == n:
			s += "$"
		case is:
			s += string(rune('a' + i))
		}
	}
	return s
}

// search looks for what there is, way by way, each nonterminal once a way; it keeps no sets that grow.
type search struct {
	g api.Grammar
}

// empty tells whether nt comes to nothing by a tree that is at most so deep.
func (s search) empty(nt, deep int) bool {
	return deep > 0 && slices.ContainsFunc(s.g.Prods, func(p api.Prod) bool {
		return p.Left == nt && !slices.ContainsFunc(p.Right, func(x api.Sym) bool { return x.Tok || !s.empty(x.At, deep-1) })
	})
}

func (s search) nullable() (l []bool) {
	for nt := range s.g.Nts {
		l = append(l, s.empty(nt, len(s.g.Nts)))
	}
	return l
}

// begins goes, from right on, to all symbols that may come first, and marks the tokens among them.
func (s search) begins(right []api.Sym, null, been, marks []bool) (through bool) {
	for _, x := range right {
		if x.Tok {
			marks[x.At] = true
			return false
		}
		if !been[x.At] {
			been[x.At] = true
			for _, p := range s.g.Prods {
				if p.Left == x.At {
					s.begins(p.Right, null, been, marks)
				}
			}
		}
		if !null[x.At] {
			return false
		}
	}
	return true
}

func (s search) row(right []api.Sym) ([]bool, bool) {
	marks := make([]bool, len(s.g.Toks))
	through := s.begins(right, s.nullable(), make([]bool, len(s.g.Nts)), marks)
	return marks, through
}

func (s search) first() (l [][]bool) {
	for nt := range s.g.Nts {
		marks, _ := s.row([]api.Sym{{At: nt}})
		l = append(l, marks)
	}
	return l
}

// behind goes, from nt on, up to all whose end it may be, and marks what may stand behind them.
func (s search) behind(nt int, been, marks []bool) {
	if been[nt] {
		return
	}
	been[nt] = true
	if nt == 0 {
		marks[len(s.g.Toks)] = true
	}
	for _, p := range s.g.Prods {
		for place, x := range p.Right {
			if x.Tok || x.At != nt {
				continue
			}
			l, through := s.row(p.Right[place+1:])
			for kind, is := range l {
				marks[kind] = marks[kind] || is
			}
			if through {
				s.behind(p.Left, been, marks)
			}
		}
	}
}

func (s search) follow() (l [][]bool) {
	for nt := range s.g.Nts {
		marks := make([]bool, len(s.g.Toks)+1)
		s.behind(nt, make([]bool, len(s.g.Nts)), marks)
		l = append(l, marks)
	}
	return l
}

// meet is what all of the sets have that closed says yes to: sets of n bits, each bit a place of one of the sets.
func meet(n int, closed func(l int) bool) int {
	all := 1<<n - 1
	for l := range 1 << n {
		if closed(l) {
			all &= l
		}
	}
	return all
}

// leastSets tells the least sets as the document's words have them: what all have for which the sentence holds. (For few kinds and nonterminals.)
func leastSets(g api.Grammar) (null, first, follow int) {
	toks, nts := len(g.Toks), len(g.Nts)
	null = meet(nts, func(l int) bool {
		for _, p := range g.Prods {
			if !slices.ContainsFunc(p.Right, func(x api.Sym) bool { return x.Tok || l>>x.At&1 == 0 }) && l>>p.Left&1 == 0 {
				return false
			}
		}
		return true
	})
	// row is what right begins with if the sets are l: a bit a kind, and whether it can be nothing.
	row := func(l int, right []api.Sym) (set int, through bool) {
		for _, x := range right {
			if x.Tok {
				return set | 1<<x.At, false
			}
			set |= l >> (x.At * toks) & (1<<toks - 1)
			if null>>x.At&1 == 0 {
				return set, false
			}
		}
		return set, true
	}
	first = meet(nts*toks, func(l int) bool {
		for _, p := range g.Prods {
			if set, _ := row(l, p.Right); set&^(l>>(p.Left*toks)) != 0 {
				return false
			}
		}
		return true
	})
	wide := toks + 1
	follow = meet(nts*wide, func(l int) bool {
		if l>>toks&1 == 0 {
			return false
		}
		for _, p := range g.Prods {
			for place, x := range p.Right {
				set, through := row(first, p.Right[place+1:])
				if through {
					set |= l >> (p.Left * wide) & (1<<wide - 1)
				}
				if !x.Tok && set&^(l>>(x.At*wide)) != 0 {
					return false
				}
			}
		}
		return true
	})
	return null, first, follow
}

// bits is l as a number, the first place the lowest bit.
func bits(l []bool) (n int) {
	for i, is := range l {
		if is {
			n |= 1 << i
		}
	}
	return n
}

// forms is what nt comes to, in any number of steps, as long as no more than so many symbols stand there.
func forms(g api.Grammar, nt, long int) [][]api.Sym {
	start := []api.Sym{{At: nt}}
	been := map[string]bool{key(start): true}
	l := [][]api.Sym{start}
	for i := 0; i < len(l); i++ {
		for place, x := range l[i] {
			for _, p := range g.Prods {
				if x.Tok || p.Left != x.At || len(l[i])-1+len(p.Right) > long {
					continue
				}
				next := slices.Concat(l[i][:place], p.Right, l[i][place+1:])
				if !been[key(next)] {
					been[key(next)] = true
					l = append(l, next)
				}
			}
		}
	}
	return l
}

func key(form []api.Sym) string {
	return spelt(api.Grammar{Prods: []api.Prod{{Right: form}}})
}
