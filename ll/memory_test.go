package ll

import (
	"reflect"
	"slices"
	"testing"

	"lemmata/api"
)

// roomy is a grammar with spare room behind its lists, which holds more.
func roomy() api.Grammar {
	g := made(3, 2, "STc", "TaT", "T", "Tac")
	g.Toks = append(slices.Clone(g.Toks), make([]api.Tok, 3)...)[:3]
	g.Nts = append(slices.Clone(g.Nts), make([]api.Nt, 3)...)[:2]
	g.Prods = append(slices.Clone(g.Prods), made(3, 2, "Tb", "S").Prods...)[:4]
	for i := range g.Prods {
		g.Prods[i].Right = append(slices.Clone(g.Prods[i].Right), syms("bbb")...)[:len(g.Prods[i].Right)]
	}
	return g
}

// whole is g with its spare room.
func whole(g api.Grammar) api.Grammar {
	w := api.Grammar{Toks: slices.Clone(g.Toks[:cap(g.Toks)]), Nts: slices.Clone(g.Nts[:cap(g.Nts)]), Prods: slices.Clone(g.Prods[:cap(g.Prods)])}
	for i, p := range w.Prods {
		w.Prods[i].Right = slices.Clone(p.Right[:cap(p.Right)])
	}
	return w
}

func isRoomys(table [][]int, clashes []api.Clash) bool {
	return inWords(table) == "0 - 0 -, 1 - 2 -" && slices.Equal(clashes, []api.Clash{{Nt: 1, Tok: 0, A: 1, B: 3}})
}

func TestNothingIsChanged(t *testing.T) {
	g := roomy()
	was := whole(g)
	for range 2 { // the same call tells the same
		if table, clashes := Table(g); !isRoomys(table, clashes) {
			t.Errorf("%v, %v", table, clashes)
		}
	}
	if !reflect.DeepEqual(whole(g), was) {
		t.Errorf("what was handed in was changed: %v", g)
	}
}

// Each row has memory of its own, which nothing else sees.
func TestNewMemory(t *testing.T) {
	g := roomy()
	for nt := range g.Nts {
		one, clashes := Table(g)
		two, others := Table(g)
		for i := range one[nt][:cap(one[nt])] {
			one[nt][:cap(one[nt])][i] = 99
		}
		one[nt] = append(one[nt], 99)
		clear(clashes[:cap(clashes)])
		if !isRoomys(two, others) || !slices.Equal(one[1-nt], two[1-nt]) {
			t.Errorf("%d: %v, %v, %v", nt, one, two, others)
		}
	}
	if table, clashes := Table(g); !isRoomys(table, clashes) {
		t.Errorf("%v, %v", table, clashes)
	}
}

func TestNothingIsKept(t *testing.T) {
	g := roomy()
	table, clashes := Table(g)
	clear(g.Prods)
	clear(g.Toks)
	clear(g.Nts)
	if !isRoomys(table, clashes) {
		t.Errorf("%v, %v", table, clashes)
	}
}

func TestNilIsEmpty(t *testing.T) {
	g, h := made(1, 1, "S"), made(1, 1, "S")
	g.Prods[0].Right, h.Prods[0].Right = nil, []api.Sym{}
	for _, g := range []api.Grammar{g, h} {
		if table, clashes := Table(g); inWords(table) != "- 0" || len(clashes) > 0 {
			t.Errorf("%v, %v", table, clashes)
		}
	}
}
