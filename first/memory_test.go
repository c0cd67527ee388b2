package first

import (
	"reflect"
	"slices"
	"testing"

	"lemmata/api"
)

// roomy is a grammar with spare room behind its lists, which holds more.
func roomy() api.Grammar {
	g := made(3, 2, "STc", "TaT", "T")
	g.Toks = append(slices.Clone(g.Toks), make([]api.Tok, 3)...)[:3]
	g.Nts = append(slices.Clone(g.Nts), make([]api.Nt, 3)...)[:2]
	g.Prods = append(slices.Clone(g.Prods), made(3, 2, "Tb", "S").Prods...)[:3]
	for i := range g.Prods {
		g.Prods[i].Right = append(slices.Clone(g.Prods[i].Right), syms("bbb")...)[:len(g.Prods[i].Right)]
	}
	return g
}

// whole is g with its spare room.
func whole(g api.Grammar) api.Grammar {
	w := api.Grammar{Toks: slices.Clone(g.Toks[:cap(g.Toks)]), Nts: slices.Clone(g.Nts[:cap(g.Nts)]), Prods: slices.Clone(g.Prods[:cap(g.Prods)])}
	for i, p := range w.Prods {
		w.Prods[i].Right = slices.Clone(p.Right[:cap(p.Right)])
	}
	return w
}

func TestNothingIsChanged(t *testing.T) {
	g, right := roomy(), append(syms("Tc"), syms("bb")...)[:2]
	was, room := whole(g), slices.Clone(right[:4])
	want := sets{"T", "ac a", "$ c"}
	for range 2 { // the same call tells the same
		if got := told(t, g); got != want {
			t.Errorf("%v", got)
		}
		if l, null := Row(g, right); said(l, 3) != "ac" || null {
			t.Errorf("%v, %v", l, null)
		}
	}
	if !reflect.DeepEqual(whole(g), was) || !slices.Equal(right[:4], room) {
		t.Errorf("what was handed in was changed: %v, %v", g, right)
	}
}

// Each row has memory of its own, which nothing else sees.
func TestNewMemory(t *testing.T) {
	g := roomy()
	want := told(t, g)
	for _, tell := range []func(g api.Grammar) [][]bool{First, Follow} {
		for nt := range g.Nts {
			one, two, whole := tell(g), tell(g), tell(g)
			for i := range one[nt][:cap(one[nt])] {
				one[nt][:cap(one[nt])][i] = true
			}
			one[nt] = append(one[nt], true)
			for other := range one {
				if other != nt && !slices.Equal(one[other], whole[other]) {
					t.Errorf("%d, %d: %v", nt, other, one)
				}
			}
			if !reflect.DeepEqual(two, whole) {
				t.Errorf("%d: %v", nt, two)
			}
		}
	}
	null := Nullable(g)
	clear(null)
	row, _ := Row(g, syms("T"))
	clear(row)
	if got := told(t, g); got != want {
		t.Errorf("%v", got)
	}
}

func TestNothingIsKept(t *testing.T) {
	g, right := roomy(), syms("T")
	null, first, follow := Nullable(g), First(g), Follow(g)
	row, _ := Row(g, right)
	clear(g.Prods)
	clear(g.Toks)
	clear(right)
	if !slices.Equal(null, []bool{false, true}) || words(first, 3) != "ac a" || words(follow, 3) != "$ c" || said(row, 3) != "a" {
		t.Errorf("%v, %v, %v, %v", null, first, follow, row)
	}
}

func TestNilIsEmpty(t *testing.T) {
	g, h := made(1, 1, "S"), made(1, 1, "S")
	g.Prods[0].Right, h.Prods[0].Right = nil, []api.Sym{}
	if told(t, g) != told(t, h) {
		t.Errorf("%v, %v", told(t, g), told(t, h))
	}
	a, one := Row(g, nil)
	b, two := Row(g, []api.Sym{})
	if !one || !two || said(a, 1) != "" || said(b, 1) != "" || len(a) != 1 || len(b) != 1 {
		t.Errorf("%v %v, %v %v", a, one, b, two)
	}
}
