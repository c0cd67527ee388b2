package first

import "lemmata/api"

// nothing is whether what a nonterminal comes to can be nothing: a set in which that is, or not.
type nothing bool

func (s nothing) with(more nothing) nothing {
	return s || more
}

// kinds is a set of kinds of tokens; the end stands in it behind those that the grammar has.
type kinds [api.MaxToks + 1]bool

func (s kinds) with(more kinds) kinds {
	for kind, is := range more {
		s[kind] = s[kind] || is
	}
	return s
}

func only(kind int) (s kinds) {
	s[kind] = true
	return s
}

// starts is what a grammar's nonterminals begin with, as far as it is known, and which of them can be nothing.
type starts struct {
	toks  int
	null  []nothing
	first []kinds
}

func startsOf(g api.Grammar) starts {
	null := nulls(g)
	return starts{len(g.Toks), null, firsts(g, null)}
}

// of is what right begins with, and whether it can be nothing. A symbol that the grammar has not comes to nothing that there is, not even to a text of no tokens.
func (k starts) of(right []api.Sym) (first kinds, null nothing) {
	for _, sym := range right {
		switch {
		case !k.has(sym):
			return first, false
		case sym.Tok:
			return first.with(only(sym.At)), false
		}
		first = first.with(k.first[sym.At])
		if !k.null[sym.At] {
			return first, false
		}
	}
	return first, true
}

func (k starts) has(sym api.Sym) bool {
	if sym.Tok {
		return 0 <= sym.At && sym.At < k.toks
	}
	return 0 <= sym.At && sym.At < len(k.null)
}

func nulls(g api.Grammar) []nothing {
	return least(len(g.Nts), func(l *growing[nothing]) {
		for _, p := range g.Prods {
			l.add(p.Left, allNothing(p.Right, l.sets))
		}
	})
}

func allNothing(right []api.Sym, null []nothing) nothing {
	for _, sym := range right {
		if sym.Tok || !bool(null[sym.At]) {
			return false
		}
	}
	return true
}

func firsts(g api.Grammar, null []nothing) []kinds {
	return least(len(g.Nts), func(l *growing[kinds]) {
		for _, p := range g.Prods {
			first, _ := starts{len(g.Toks), null, l.sets}.of(p.Right)
			l.add(p.Left, first)
		}
	})
}

func follows(g api.Grammar) []kinds {
	known := startsOf(g)
	return least(len(g.Nts), func(l *growing[kinds]) {
		l.add(0, only(len(g.Toks)))
		for _, p := range g.Prods {
			followIn(p, known, l)
		}
	})
}

// followIn adds what p lets stand behind the nonterminals of its right side.
func followIn(p api.Prod, known starts, l *growing[kinds]) {
	for place, sym := range p.Right {
		if sym.Tok {
			continue
		}
		behind, null := known.of(p.Right[place+1:])
		if null {
			behind = behind.with(l.sets[p.Left])
		}
		l.add(sym.At, behind)
	}
}
