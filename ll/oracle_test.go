package ll

import (
	"slices"
	"strconv"
	"strings"

	"lemmata/api"
)

// made is a grammar of so many kinds of tokens (a, b, ..) and nonterminals (S, T, ..); each production is its left side and those of its right one.
func made(toks, nts int, prods ...string) (g api.Grammar) {
	for i := range toks {
		g.Toks = append(g.Toks, api.Tok{Name: string(rune('a' + i)), Rex: string(rune('a' + i))})
	}
	for i := range nts {
		g.Nts = append(g.Nts, api.Nt{Name: string(rune('s' + i))})
	}
	for _, s := range prods {
		g.Prods = append(g.Prods, api.Prod{Left: int(s[0] - 'S'), Right: syms(s[1:])})
	}
	return g
}

func syms(s string) (l []api.Sym) {
	for i := range len(s) {
		if s[i] >= 'a' {
			l = append(l, api.Sym{Tok: true, At: int(s[i] - 'a')})
		} else {
			l = append(l, api.Sym{At: int(s[i] - 'S')})
		}
	}
	return l
}

// spelt is g's productions as made takes them.
func spelt(g api.Grammar) string {
	var l []string
	for _, p := range g.Prods {
		s := string(rune('S' + p.Left))
		for _, sym := range p.Right {
			if sym.Tok {
				s += string(rune('a' + sym.At))
			} else {
				s += string(rune('S' + sym.At))
			}
		}
		l = append(l, s)
	}
	return strings.Join(l, " ")
}

// inWords is a table, its rows one behind the other: a number, or - for none.
func inWords(table [][]int) string {
	var l []string
	for _, row := range table {
		var s []string
		for _, prod := range row {
			if prod == -1 {
				s = append(s, "-")
			} else {
				s = append(s, strconv.Itoa(prod))
			}
		}
		l = append(l, strings.Join(s, " "))
	}
	return strings.Join(l, ", ")
}

// search looks for what the document's words say, way by way, each nonterminal once a way: no sets that grow.
type search struct {
	g    api.Grammar
	null []bool
}

func searchOf(g api.Grammar) search {
	s := search{g: g}
	for nt := range g.Nts {
		s.null = append(s.null, s.nothing(nt, len(g.Nts)))
	}
	return s
}

// nothing tells whether nt comes to nothing by a tree that is at most so deep.
func (s search) nothing(nt, deep int) bool {
	return deep > 0 && slices.ContainsFunc(s.g.Prods, func(p api.Prod) bool {
		return p.Left == nt && !slices.ContainsFunc(p.Right, func(x api.Sym) bool { return x.Tok || !s.nothing(x.At, deep-1) })
	})
}

func (s search) empty(right []api.Sym) bool {
	return !slices.ContainsFunc(right, func(x api.Sym) bool { return x.Tok || !s.null[x.At] })
}

// begins tells whether right may begin with tok; been are the nonterminals that were looked into.
func (s search) begins(right []api.Sym, tok int, been []bool) bool {
	for i, x := range right {
		if !s.empty(right[:i]) {
			return false
		}
		if x.Tok && x.At == tok {
			return true
		}
		if x.Tok || been[x.At] {
			continue
		}
		been[x.At] = true
		for _, p := range s.g.Prods {
			if p.Left == x.At && s.begins(p.Right, tok, been) {
				return true
			}
		}
	}
	return false
}

// follows tells whether tok (the end: how many kinds there are) may stand behind nt; been are the nonterminals that were looked at.
func (s search) follows(nt, tok int, been []bool) bool {
	if been[nt] {
		return false
	}
	been[nt] = true
	if nt == 0 && tok == len(s.g.Toks) {
		return true
	}
	for _, p := range s.g.Prods {
		for place, x := range p.Right {
			if x.Tok || x.At != nt {
				continue
			}
			behind := p.Right[place+1:]
			if s.begins(behind, tok, make([]bool, len(s.g.Nts))) || s.empty(behind) && s.follows(p.Left, tok, been) {
				return true
			}
		}
	}
	return false
}

// means tells whether production p might be meant when tok comes next.
func (s search) means(p api.Prod, tok int) bool {
	n := len(s.g.Nts)
	return s.begins(p.Right, tok, make([]bool, n)) || s.empty(p.Right) && s.follows(p.Left, tok, make([]bool, n))
}

func (s search) table() (table [][]int, clashes []api.Clash) {
	for nt := range s.g.Nts {
		row := make([]int, len(s.g.Toks)+1)
		for tok := range row {
			row[tok] = -1
			for place, p := range s.g.Prods {
				if p.Left != nt || !s.means(p, tok) {
					continue
				}
				if row[tok] == -1 {
					row[tok] = place
				} else {
					clashes = append(clashes, api.Clash{Nt: nt, Tok: tok, A: row[tok], B: place})
				}
			}
		}
		table = append(table, row)
	}
	return table, clashes
}

// use is that a nonterminal stood in a tree by a production, and a token (or the end) came next.
type use struct {
	nt, tok, prod int
}

// text is a text of tokens, and what of it nonterminals come to: piece nt, from, to.
type text struct {
	g    api.Grammar
	toks []int
	is   map[[3]int]int
}

func textOf(g api.Grammar, toks []int) text {
	t := text{g, toks, map[[3]int]int{}}
	for n := -1; n < len(t.is); {
		n = len(t.is)
		for _, p := range g.Prods {
			for from := range len(toks) + 1 {
				for to := from; to <= len(toks); to++ {
					if len(t.cuts(p.Right, from, to)) > 0 {
						t.is[[3]int{p.Left, from, to}] = 1
					}
				}
			}
		}
	}
	return t
}

// cuts tells all ways in which right comes to the tokens from from to to: where the parts end.
func (t text) cuts(right []api.Sym, from, to int) (l [][]int) {
	if len(right) == 0 {
		if from == to {
			return [][]int{nil}
		}
		return nil
	}
	for end := from; end <= to; end++ {
		if x := right[0]; x.Tok && (end != from+1 || t.toks[from] != x.At) || !x.Tok && t.is[[3]int{x.At, from, end}] == 0 {
			continue
		}
		for _, more := range t.cuts(right[1:], end, to) {
			l = append(l, append([]int{end}, more...))
		}
	}
	return l
}

// uses tells which productions stand where in trees of all of the text.
func (t text) uses() map[use]int {
	l, been := map[use]int{}, map[[3]int]int{}
	work := [][3]int{{0, 0, len(t.toks)}}
	for ; len(work) > 0; work = work[1:] {
		nt, from, to := work[0][0], work[0][1], work[0][2]
		if been[work[0]] > 0 {
			continue
		}
		been[work[0]] = 1
		next := len(t.g.Toks)
		if from < len(t.toks) {
			next = t.toks[from]
		}
		for place, p := range t.g.Prods {
			if p.Left != nt {
				continue
			}
			for _, ends := range t.cuts(p.Right, from, to) {
				l[use{nt, next, place}] = 1
				at := from
				for i, x := range p.Right {
					if !x.Tok {
						work = append(work, [3]int{x.At, at, ends[i]})
					}
					at = ends[i]
				}
			}
		}
	}
	return l
}

// trees tells how many trees there are of nt for the tokens from from to to that are at most so deep: none, one, or two for more.
func (t text) trees(nt, from, to, deep int) (n int) {
	if deep == 0 {
		return 0
	}
	for _, p := range t.g.Prods {
		if p.Left != nt {
			continue
		}
		for _, ends := range t.cuts(p.Right, from, to) {
			ways, at := 1, from
			for i, x := range p.Right {
				if !x.Tok && ways > 0 {
					ways *= t.trees(x.At, at, ends[i], deep-1)
				}
				at = ends[i]
			}
			n = min(2, n+ways)
		}
		if n == 2 {
			break
		}
	}
	return n
}

// texts is all texts of at most n tokens of so many kinds.
func texts(kinds, n int) [][]int {
	l := [][]int{nil}
	for from := 0; n > 0; n-- {
		to := len(l)
		for ; from < to; from++ {
			for kind := range kinds {
				l = append(l, append(slices.Clone(l[from]), kind))
			}
		}
	}
	return l
}

// goes tells whether the table leads from nonterminal 0 through all of toks, always the first symbol that is open; each step is a production, no more of them than steps.
func goes(g api.Grammar, table [][]int, toks []int, steps int) bool {
	open := []api.Sym{{}}
	for len(open) > 0 {
		x := open[0]
		next := len(g.Toks)
		if len(toks) > 0 {
			next = toks[0]
		}
		if x.Tok {
			if next != x.At {
				return false
			}
			open, toks = open[1:], toks[1:]
			continue
		}
		if steps--; table[x.At][next] == -1 || steps < 0 {
			return false
		}
		open = slices.Concat(g.Prods[table[x.At][next]].Right, open[1:])
	}
	return len(toks) == 0
}
