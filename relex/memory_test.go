package relex

import (
	"slices"
	"testing"
	"unsafe"

	"lemmata/api"
	"lemmata/lex"
)

// withRoom is l with spare room behind it, which holds x.
func withRoom[T any](l []T, x T) []T {
	return append(slices.Clone(l), x)[:len(l)]
}

func TestEditLeavesWhatItWasHanded(t *testing.T) {
	const s = "abb?ab"
	rows := withRoom(rowsOf(t, "a b+"), api.Row{End: 5})
	l := withRoom(lex.All(rows, s), api.Token{At: len(s), Len: 1})
	wasRows, wasTokens := slices.Clone(rows[:cap(rows)]), slices.Clone(l[:cap(l)])
	for c := range splices(len(s), []string{"", "a", "?bb"}) {
		text, first, kept, _ := Edit(rows, s, l, c)
		want := slices.Clone(first)
		clear(first[:cap(first)])
		if !slices.Equal(rows[:cap(rows)], wasRows) || !slices.Equal(l[:cap(l)], wasTokens) {
			t.Fatalf("%v: what was handed in was changed", c)
		}
		again, m, n, ok := Edit(rows, s, l, c)
		if again != text || !slices.Equal(m, want) || n != kept || !ok {
			t.Errorf("%v: the same call tells another: %q %v %d %v", c, again, m, n, ok)
		}
	}
	for _, c := range []api.Splice{{At: -1}, {At: 7}, {N: -1}, {At: 6, N: 1}} {
		Edit(rows, s, l, c)
		if !slices.Equal(rows[:cap(rows)], wasRows) || !slices.Equal(l[:cap(l)], wasTokens) {
			t.Errorf("%v: what was handed in was changed", c)
		}
	}
}

// What is done behind the call to what was handed in is not to be seen in what was told.
func TestEditKeepsNothing(t *testing.T) {
	rows := rowsOf(t, "a b+")
	l := lex.All(rows, "abb")
	_, m, _, _ := Edit(rows, "abb", l, api.Splice{At: 3, Put: "a"})
	want := slices.Clone(m)
	clear(l)
	clear(rows)
	if !slices.Equal(m, want) {
		t.Errorf("%v, not %v", m, want)
	}
	rows = rowsOf(t, "a b+")
	if _, again, kept, ok := Edit(rows, "abb", lex.All(rows, "abb"), api.Splice{At: 3, Put: "a"}); !slices.Equal(again, want) || kept != 2 || !ok {
		t.Errorf("%v %d %v", again, kept, ok)
	}
}

// What stands in spare room alone is not there.
func TestEditStaysWithinItsLists(t *testing.T) {
	rows := rowsOf(t, "a b")
	l := lex.All(rows, "abab")
	for n := range len(l) + 1 {
		if _, m, kept, ok := Edit(rows, "abab", l[:n], api.Splice{}); kept != n || len(m) != 4 || !ok {
			t.Errorf("%d tokens: %v %d %v", n, m, kept, ok)
		}
	}
	if _, m, kept, ok := Edit(rows[:1], "ab", lex.All(rows, "ab"), api.Splice{}); kept != 0 || !slices.Equal(m, []api.Token{{Kind: -1, At: 0, Len: 1}, {Kind: -1, At: 1, Len: 1}}) || !ok {
		t.Errorf("%v %d %v", m, kept, ok)
	}
}

// shares tells whether a byte of one stands where one of the other does.
func shares(s, t string) bool {
	if s == "" || t == "" {
		return false
	}
	one, two := uintptr(unsafe.Pointer(unsafe.StringData(s))), uintptr(unsafe.Pointer(unsafe.StringData(t)))
	return one < two+uintptr(len(t)) && two < one+uintptr(len(s))
}

// The text is told as new memory, also where it is the same, or all of it came.
func TestEditTellsANewText(t *testing.T) {
	rows := rowsOf(t, "a b")
	for _, s := range []string{"", "a", "abab"} {
		for c := range splices(len(s), []string{"", "b", "baba"}) {
			text, _, _, _ := Edit(rows, s, lex.All(rows, s), c)
			if shares(text, s) || shares(text, c.Put) {
				t.Errorf("%q, %v: %q is no new memory", s, c, text)
			}
		}
	}
}

func TestEditTakesNilAndEmptyAsOne(t *testing.T) {
	for _, rows := range [][]api.Row{nil, {}} {
		for _, l := range [][]api.Token{nil, {}} {
			if text, m, kept, ok := Edit(rows, "", l, api.Splice{Put: "a"}); text != "a" || !slices.Equal(m, []api.Token{{Kind: -1, Len: 1}}) || kept != 0 || !ok {
				t.Errorf("%q %v %d %v", text, m, kept, ok)
			}
		}
	}
}
