package gram

import (
	"reflect"
	"regexp"
	"slices"

	"lemmata/api"
)

var name = regexp.MustCompile(`^[a-z][a-z0-9]*\z`)

func badName(s string) bool {
	return !name.MatchString(s) || len(s) > 8
}

// twice tells whether one of l is there more than once: then, in order, two neighbours are alike.
func twice(l []string) bool {
	l = slices.Sorted(slices.Values(l))
	return len(slices.Compact(slices.Clone(l))) < len(l)
}

// fault tells what is wrong with g, going through all of it: nothing, if it may be.
func fault(g api.Grammar) string {
	var names []string
	if len(g.Toks) < 1 || len(g.Toks) > 8 || len(g.Nts) < 1 || len(g.Nts) > 8 || len(g.Prods) < 1 || len(g.Prods) > 16 {
		return "numbers"
	}
	// Symbols that may stand on a right side.
	syms := map[api.Sym]bool{}
	for i, tok := range g.Toks {
		names = append(names, tok.Name)
		if !tok.Skip {
			syms[api.Sym{Tok: true, At: i}] = true
		}
	}
	for i, nt := range g.Nts {
		names = append(names, nt.Name)
		syms[api.Sym{At: i}] = true
		attrs := slices.Concat(nt.Inh, nt.Syn)
		if len(attrs) > 4 || twice(attrs) || slices.ContainsFunc(attrs, badName) {
			return "attributes"
		}
	}
	if twice(names) || slices.ContainsFunc(names, badName) {
		return "names"
	}
	for _, p := range g.Prods {
		if !syms[api.Sym{At: p.Left}] || len(p.Right) > 5 {
			return "productions"
		}
		for _, s := range p.Right {
			if !syms[s] {
				return "symbols"
			}
		}
	}
	return ""
}

// copied is g in memory of its own, all lists there but empty ones nil, with its rules or without.
func copied(g api.Grammar, rules bool) api.Grammar {
	c := api.Grammar{Toks: append([]api.Tok(nil), g.Toks...), Nts: append([]api.Nt(nil), g.Nts...), Prods: append([]api.Prod(nil), g.Prods...)}
	for i, nt := range c.Nts {
		c.Nts[i].Inh, c.Nts[i].Syn = append([]string(nil), nt.Inh...), append([]string(nil), nt.Syn...)
	}
	for i, p := range c.Prods {
		c.Prods[i].Right, c.Prods[i].Rules = append([]api.Sym(nil), p.Right...), append([]api.Rule(nil), p.Rules...)
		if !rules {
			c.Prods[i].Rules = nil
		}
	}
	return c
}

// alike is Same, by all that there is in both but rules.
func alike(a, b api.Grammar) bool {
	return reflect.DeepEqual(copied(a, false), copied(b, false))
}

// offsets is Offset of all left sides that there are, at once.
func offsets(g api.Grammar) map[int][]int {
	all := map[int][]int{}
	for i := len(g.Prods) - 1; i >= 0; i-- {
		left := g.Prods[i].Left
		all[left] = append([]int{i}, all[left]...)
	}
	return all
}
