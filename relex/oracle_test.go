package relex

import (
	"fmt"
	"iter"
	"math/rand"
	"slices"
	"strings"
	"testing"

	"lemmata/api"
	"lemmata/lex"
)

func rowsOf(t *testing.T, pats string) []api.Row {
	t.Helper()
	var toks []api.Tok
	for _, s := range strings.Fields(pats) {
		toks = append(toks, api.Tok{Rex: s})
	}
	rows, ok := lex.Rows(toks)
	if !ok {
		t.Fatalf("%s: no rows", pats)
	}
	return rows
}

// splicedBy goes through all bytes of s.
func splicedBy(s string, c api.Splice) string {
	var t []byte
	for i := range len(s) + 1 {
		if i == c.At {
			t = append(t, c.Put...)
		}
		if i < len(s) && (i < c.At || i >= c.At+c.N) {
			t = append(t, s[i])
		}
	}
	return string(t)
}

// told writes each token down, its place counted from byte from on. One that is not of s is like none of any text.
func told(s string, l []api.Token, from int, side string) (out []string) {
	for _, x := range l {
		text := "none of " + side
		for at := range len(s) + 1 {
			for to := at; to <= len(s); to++ {
				if at == x.At && to-at == x.Len {
					text = fmt.Sprintf("%q", s[at:to])
				}
			}
		}
		out = append(out, fmt.Sprint(x.Kind, " ", x.At-from, " ", x.Len, " ", text))
	}
	return out
}

// keptBy tries all counts at the front, then all at the end of what is behind that, the greatest first.
func keptBy(s string, l []api.Token, t string, m []api.Token) int {
	front, end := min(len(l), len(m)), 0
	for !slices.Equal(told(s, l[:front], 0, "was"), told(t, m[:front], 0, "is")) {
		front--
	}
	l, m = l[front:], m[front:]
	for end = min(len(l), len(m)); !slices.Equal(told(s, l[len(l)-end:], len(s), "was"), told(t, m[len(m)-end:], len(t), "is")); {
		end--
	}
	return front + end
}

// sameEdit holds an edit against the plain splice, all tokens of that, and all counts; it hands on what was told.
func sameEdit(t *testing.T, rows []api.Row, s string, l []api.Token, c api.Splice) (string, []api.Token) {
	t.Helper()
	text, m, kept, ok := Edit(rows, s, l, c)
	want := splicedBy(s, c)
	tokens := lex.All(rows, want)
	if !ok || text != want || !slices.Equal(m, tokens) || kept != keptBy(s, l, want, tokens) {
		t.Fatalf("%q, %v, %v: %q %v %d %v, not %q %v %d", s, l, c, text, m, kept, ok, want, tokens, keptBy(s, l, want, tokens))
	}
	return text, m
}

// textsUpTo tells all texts of at most n of those bytes.
func textsUpTo(n int, of string) iter.Seq[string] {
	return func(yield func(string) bool) {
		longest := []string{""}
		for k := 0; ; k++ {
			var longer []string
			for _, s := range longest {
				if !yield(s) {
					return
				}
				for i := range len(of) {
					longer = append(longer, s+of[i:i+1])
				}
			}
			if k == n {
				return
			}
			longest = longer
		}
	}
}

// splices tells all that may be of n bytes, each with all of those texts.
func splices(n int, puts []string) iter.Seq[api.Splice] {
	return func(yield func(api.Splice) bool) {
		for at := range n + 1 {
			for gone := range n - at + 1 {
				for _, put := range puts {
					if !yield(api.Splice{At: at, N: gone, Put: put}) {
						return
					}
				}
			}
		}
	}
}

func anyText(chance *rand.Rand, of string, most int) string {
	var s []byte
	for range chance.Intn(most + 1) {
		s = append(s, of[chance.Intn(len(of))])
	}
	return string(s)
}

func anySplice(chance *rand.Rand, n int, of string) api.Splice {
	at := chance.Intn(n + 1)
	return api.Splice{At: at, N: chance.Intn(min(n-at, 4) + 1), Put: anyText(chance, of, 4)}
}
