package lex

import (
	"slices"
	"strings"
	"testing"
	"unsafe"

	"lemmata/api"
)

// withRoom is l with spare room behind it, which holds x.
func withRoom[T any](l []T, x T) []T {
	return append(slices.Clone(l), x)[:len(l)]
}

func TestRowsLeavesWhatItWasHanded(t *testing.T) {
	for _, toks := range [][]api.Tok{toksOf("a(b|[c-ex])* !b .+"), toksOf("a !( b"), chains(300), nil} {
		room := withRoom(toks, api.Tok{Name: "y", Rex: "z", Skip: true})
		was := slices.Clone(room[:cap(room)])
		first, ok := Rows(room)
		want := slices.Clone(first)
		clear(first[:cap(first)])
		again, yes := Rows(room)
		if !slices.Equal(room[:cap(room)], was) {
			t.Errorf("%v: what was handed in was changed", toks)
		}
		if ok != yes || !slices.Equal(again, want) {
			t.Errorf("%v: the same call tells another", toks)
		}
		clear(room)
		if !slices.Equal(again, want) {
			t.Errorf("%v: the rows went with what was handed in", toks)
		}
	}
}

func TestAllLeavesWhatItWasHanded(t *testing.T) {
	for _, rows := range [][]api.Row{rowsOf(t, "a b+ [cd]e"), make([]api.Row, 2), nil} {
		room := withRoom(rows, api.Row{End: 5})
		was := slices.Clone(room[:cap(room)])
		first := All(room, "abbcede?")
		want := slices.Clone(first)
		clear(first[:cap(first)])
		again := All(room, "abbcede?")
		if !slices.Equal(room[:cap(room)], was) {
			t.Error("what was handed in was changed")
		}
		if !slices.Equal(again, want) {
			t.Errorf("the same call tells another: %v, not %v", again, want)
		}
	}
}

// A row that stands in spare room alone is not there.
func TestAllStaysWithinItsRows(t *testing.T) {
	rows := make([]api.Row, 2)
	rows[0].Next['a'] = 1
	rows[1].End = 3
	if l := All(rows[:1], "a"); !slices.Equal(l, []api.Token{{Kind: -1, At: 0, Len: 1}}) {
		t.Errorf("%v", l)
	}
}

func TestLeavesLeavesWhatItWasHanded(t *testing.T) {
	toks := withRoom(toksOf("a !b"), api.Tok{Skip: true})
	l := withRoom([]api.Token{{Kind: 0, Len: 2}, {Kind: 1, Len: 1}, {Kind: 2, Len: 1}, {Kind: 0, At: -1}}, api.Token{Len: 1})
	wasToks, wasTokens := slices.Clone(toks[:cap(toks)]), slices.Clone(l[:cap(l)])
	want := []api.Leaf{{Kind: 0, Text: "ab"}, {Kind: -1, Text: "a"}}
	first := Leaves(toks, l, "ab")
	if !slices.Equal(first, want) {
		t.Errorf("%v", first)
	}
	clear(first[:cap(first)])
	again := Leaves(toks, l, "ab")
	if !slices.Equal(toks[:cap(toks)], wasToks) || !slices.Equal(l[:cap(l)], wasTokens) {
		t.Error("what was handed in was changed")
	}
	if !slices.Equal(again, want) {
		t.Errorf("the same call tells another: %v", again)
	}
}

// A leaf is told as new memory: that of the text it was found in is not kept with it.
func TestLeavesKeepNothingOfTheText(t *testing.T) {
	s := strings.Repeat("ab", 100)
	begin := uintptr(unsafe.Pointer(unsafe.StringData(s)))
	for _, l := range [][]api.Token{{{Kind: 0, Len: 200}}, {{Kind: 0, Len: 50}}, {{Kind: -1, At: 100, Len: 60}}} {
		for _, leaf := range Leaves(toksOf("a"), l, s) {
			at := uintptr(unsafe.Pointer(unsafe.StringData(leaf.Text)))
			if begin <= at && at < begin+uintptr(len(s)) {
				t.Errorf("%v: its text is a part of the whole", l)
			}
		}
	}
}
