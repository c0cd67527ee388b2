package gram

import (
	"slices"

	"lemmata/api"
)

// parts is the lists that a grammar is made of.
type parts struct {
	toks  list[api.Tok]
	nts   list[api.Nt]
	prods list[api.Prod]
}

func partsOf(g api.Grammar) parts {
	return parts{g.Toks, g.Nts, g.Prods}
}

func (p parts) may() bool {
	// The numbers come first: they bound what all else takes.
	if !p.toks.numbers(1, api.MaxToks) || !p.nts.numbers(1, api.MaxNts) || !p.prods.numbers(1, api.MaxProds) {
		return false
	}
	return areNames(p.names()) && p.nts.all(attrsMay) && p.prods.all(p.prodMay)
}

func (p parts) names() []string {
	var l []string
	for _, tok := range p.toks {
		l = append(l, tok.Name)
	}
	for _, nt := range p.nts {
		l = append(l, nt.Name)
	}
	return l
}

func (p parts) prodMay(prod api.Prod) bool {
	right := list[api.Sym](prod.Right)
	return p.nts.has(prod.Left) && right.numbers(0, api.MaxRight) && right.all(p.symMay)
}

func (p parts) symMay(sym api.Sym) bool {
	if sym.Tok {
		return p.toks.has(sym.At) && !p.toks[sym.At].Skip
	}
	return p.nts.has(sym.At)
}

func attrsMay(nt api.Nt) bool {
	return len(nt.Inh)+len(nt.Syn) <= api.MaxAttrs && areNames(slices.Concat(nt.Inh, nt.Syn))
}

// areNames tells whether each of l is a name, and none stands in it twice.
func areNames(l []string) bool {
	return list[string](l).all(isName) && unlike[string](l)
}

func isName(s string) bool {
	if len(s) == 0 || len(s) > api.MaxName || isDigit(s[0]) {
		return false
	}
	for i := range len(s) {
		if !isLetter(s[i]) && !isDigit(s[i]) {
			return false
		}
	}
	return true
}

func isLetter(c byte) bool {
	return 'a' <= c && c <= 'z'
}

func isDigit(c byte) bool {
	return '0' <= c && c <= '9'
}
