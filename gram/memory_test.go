package gram

import (
	"reflect"
	"slices"
	"testing"

	"lemmata/api"
)

// roomy is sums with spare room behind its lists, which holds more.
func roomy() api.Grammar {
	g := sums()
	g.Toks = append(slices.Clone(g.Toks), make([]api.Tok, 3)...)[:5]
	g.Nts = append(slices.Clone(g.Nts), make([]api.Nt, 3)...)[:3]
	g.Nts[1].Inh = append(slices.Clone(g.Nts[1].Inh), "val", "left")[:2]
	g.Nts[1].Syn = append(slices.Clone(g.Nts[1].Syn), "val", "left")[:2]
	g.Prods = append(slices.Clone(g.Prods), make([]api.Prod, 3)...)[:5]
	g.Prods[0].Right = append(slices.Clone(g.Prods[0].Right), make([]api.Sym, 3)...)[:2]
	return g
}

// whole is g with its spare room, as far as it has some.
func whole(g api.Grammar) api.Grammar {
	w := copied(g, true)
	w.Toks, w.Nts, w.Prods = slices.Clone(g.Toks[:cap(g.Toks)]), slices.Clone(g.Nts[:cap(g.Nts)]), slices.Clone(g.Prods[:cap(g.Prods)])
	for i, nt := range w.Nts {
		w.Nts[i].Inh, w.Nts[i].Syn = slices.Clone(nt.Inh[:cap(nt.Inh)]), slices.Clone(nt.Syn[:cap(nt.Syn)])
	}
	for i, p := range w.Prods {
		w.Prods[i].Right = slices.Clone(p.Right[:cap(p.Right)])
	}
	return w
}

func TestNothingIsChanged(t *testing.T) {
	g, h := roomy(), roomy()
	was := whole(g)
	for range 2 { // the same call tells the same
		if !May(g) || !Same(g, h) || !Same(h, g) || !slices.Equal(Offset(g, 1), []int{1, 2}) {
			t.Error("another answer")
		}
	}
	if !reflect.DeepEqual(whole(g), was) || !reflect.DeepEqual(whole(h), was) {
		t.Errorf("what was handed in was changed: %v", g)
	}
}

func TestOffsetIsNewMemory(t *testing.T) {
	g := roomy()
	one, two := Offset(g, 2), Offset(g, 2)
	clear(one[:cap(one)])
	if !slices.Equal(two, []int{3, 4}) || !slices.Equal(Offset(g, 2), []int{3, 4}) {
		t.Errorf("%v", two)
	}
	clear(g.Prods)
	if !slices.Equal(two, []int{3, 4}) {
		t.Errorf("what was handed in was kept: %v", two)
	}
}

// May asks for numbers first, so that what is far too great is not gone through.
func TestMayOfManyMore(t *testing.T) {
	const more = 1 << 20
	for i, g := range []api.Grammar{
		changed(func(g *api.Grammar) { g.Toks = make([]api.Tok, more) }),
		changed(func(g *api.Grammar) { g.Nts = make([]api.Nt, more) }),
		changed(func(g *api.Grammar) { g.Prods = make([]api.Prod, more) }),
		changed(func(g *api.Grammar) { g.Prods[0].Right = make([]api.Sym, more) }),
		changed(func(g *api.Grammar) { g.Nts[0].Inh = make([]string, more) }),
		changed(func(g *api.Grammar) { g.Nts[0].Syn = make([]string, more) }),
	} {
		if May(g) || !Same(g, g) {
			t.Errorf("%d", i)
		}
	}
	g := changed(func(g *api.Grammar) { g.Prods = make([]api.Prod, more) })
	if l := Offset(g, 0); len(l) != more || l[more-1] != more-1 {
		t.Errorf("%d", len(l))
	}
}
