package lex

import (
	"slices"
	"strings"
	"testing"

	"lemmata/api"
	"lemmata/dfa"
	"lemmata/nfa"
	"lemmata/rex"
)

func TestRowsIsDfaOfAllPatterns(t *testing.T) {
	for _, texts := range [][]string{
		nil, {"a"}, {"a*"}, {"a", "a"}, {"if", "[a-z]+", "[0-9]+", "[ ]+|#[a-z]*;", "[=+]|=="},
		{" ", ".", `\.`, "[ -~]+"}, {"a", "b", "c", "d", "e", "f", "g", "h", "i", "j"}, {".*a......"}, {strings.Repeat("a", api.MaxRex)},
	} {
		var toks []api.Tok
		var pats [][]api.Item
		for _, s := range texts {
			items, ok := rex.Parse(s)
			if !ok {
				t.Fatalf("%q is no pattern", s)
			}
			pats = append(pats, items)
			toks = append(toks, api.Tok{Rex: s})
		}
		rows, ok := Rows(toks)
		if want := dfa.Of(nfa.Of(pats)); !ok || len(rows) == 0 || !slices.Equal(rows, want) {
			t.Errorf("%q: %d rows, %v, not those %d", texts, len(rows), ok, len(want))
		}
	}
}

// What is passed over, and what a kind is called, is no business of the rows.
func TestRowsHangOnPatternsAlone(t *testing.T) {
	toks := toksOf("a [b-d]+ e?")
	want, _ := Rows(toks)
	for i := range toks {
		toks[i].Name, toks[i].Skip = "", true
	}
	if rows, ok := Rows(toks); !ok || !slices.Equal(rows, want) {
		t.Errorf("%d rows, %v", len(rows), ok)
	}
}

// No kinds at all are no wrong ones: there is a row, and it leads nowhere.
func TestRowsOfNoKinds(t *testing.T) {
	for _, toks := range [][]api.Tok{nil, {}} {
		rows, ok := Rows(toks)
		if !ok || len(rows) != 1 {
			t.Fatalf("%d rows, %v", len(rows), ok)
		}
		if l := All(rows, "ab"); !slices.Equal(l, []api.Token{{Kind: -1, At: 0, Len: 1}, {Kind: -1, At: 1, Len: 1}}) {
			t.Errorf("%v", l)
		}
	}
}

func noRows(t *testing.T, toks []api.Tok) {
	t.Helper()
	if rows, ok := Rows(toks); ok || len(rows) != 0 {
		t.Errorf("%d kinds: %d rows, %v", len(toks), len(rows), ok)
	}
}

func TestRowsOfNoPattern(t *testing.T) {
	for _, wrong := range []string{"", "(", ")", "*", "a|", "[", "[]", "[b-a]", `\`, `\a`, "a\n", "\x7f", "\xff", strings.Repeat("a", api.MaxRex+1), strings.Repeat("(", 1<<20)} {
		for _, among := range [][]string{{wrong}, {"a", wrong}, {wrong, "a"}, {"a", wrong, "b"}, {wrong, wrong}} {
			var toks []api.Tok
			for _, s := range among {
				toks = append(toks, api.Tok{Name: "x", Rex: s})
			}
			noRows(t, toks)
			toks[0].Skip = true
			noRows(t, toks)
		}
	}
}

// chains tells kinds of one text each, no two of which begin alike: of n bytes in all, one row for each, and the first.
func chains(n int) (toks []api.Tok) {
	for c := byte('A'); n > 0; c++ {
		bytes := min(n, api.MaxRex)
		toks = append(toks, api.Tok{Rex: strings.Repeat(string([]byte{c}), bytes)})
		n -= bytes
	}
	return toks
}

func TestRowsOfManyRows(t *testing.T) {
	for _, n := range []int{1, 298, 299} {
		if rows, ok := Rows(chains(n)); !ok || len(rows) != n+1 {
			t.Errorf("%d: %d rows, %v", n, len(rows), ok)
		}
	}
	for _, n := range []int{300, 301, 600} {
		noRows(t, chains(n))
	}
	noRows(t, toksOf(".*a....................."))
	noRows(t, toksOf("a b .*a..................... c"))
}

func TestRowsOfManyKinds(t *testing.T) {
	toks := slices.Repeat([]api.Tok{{Rex: "b"}}, 1<<14)
	toks = append(toks, api.Tok{Rex: "a"})
	rows, ok := Rows(toks)
	if l := All(rows, "ab"); !ok || !slices.Equal(l, []api.Token{{Kind: 1 << 14, At: 0, Len: 1}, {Kind: 0, At: 1, Len: 1}}) {
		t.Errorf("%v, %v", l, ok)
	}
	noRows(t, append(toks, api.Tok{}))
}
