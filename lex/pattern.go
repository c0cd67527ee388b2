package lex

import (
	"lemmata/api"
	"lemmata/rex"
)

// patterns tells what is of toks, in order: the place of a pattern is the kind that its texts are of.
func patterns(toks []api.Tok) ([][]api.Item, bool) {
	var pats [][]api.Item
	for _, tok := range toks {
		items, ok := rex.Parse(tok.Rex)
		if !ok {
			return nil, false
		}
		pats = append(pats, items)
	}
	return pats, true
}
