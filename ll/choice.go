package ll

import (
	"lemmata/api"
	"lemmata/first"
	"lemmata/gram"
)

// choice is the productions of one nonterminal that might be meant when one kind of token, or the end, comes next, rising.
type choice []int

func (c choice) first() int {
	if len(c) == 0 {
		return -1
	}
	return c[0]
}

func clashesAt(nt, tok int, c choice) []api.Clash {
	var l []api.Clash
	for place, prod := range c {
		if place > 0 {
			l = append(l, api.Clash{Nt: nt, Tok: tok, A: c.first(), B: prod})
		}
	}
	return l
}

// choicesOf has a row a nonterminal, a place in it a kind of token, and one, the last, for the end.
func choicesOf(g api.Grammar) grid[choice] {
	nexts := nextsOf(g)
	return gridOf(len(g.Nts), len(g.Toks)+1, func(nt, tok int) choice {
		var c choice
		for _, prod := range gram.Offset(g, nt) {
			if nexts[prod][tok] {
				c = append(c, prod)
			}
		}
		return c
	})
}

// nextsOf tells of each production of g which kinds of tokens may come next where it is meant, and (behind them) whether the end may.
func nextsOf(g api.Grammar) grid[bool] {
	follow := first.Follow(g)
	var l grid[bool]
	for _, p := range g.Prods {
		begin, null := first.Row(g, p.Right)
		next := append(begin, false) // nothing begins with the end
		if null {
			for tok, may := range follow[p.Left] {
				next[tok] = next[tok] || may
			}
		}
		l = append(l, next)
	}
	return l
}
