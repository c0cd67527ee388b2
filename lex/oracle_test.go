package lex

import (
	"fmt"
	"iter"
	"math/rand"
	"regexp"
	"strings"
	"testing"

	"lemmata/api"
	"lemmata/rex"
)

// toksOf tells a kind of token for each pattern, parted by spaces; a sign ! ahead of one makes it Skip.
func toksOf(pats string) (toks []api.Tok) {
	for _, s := range strings.Fields(pats) {
		s, skip := strings.CutPrefix(s, "!")
		toks = append(toks, api.Tok{Name: "x", Rex: s, Skip: skip})
	}
	return toks
}

func rowsOf(t *testing.T, pats string) []api.Row {
	t.Helper()
	rows, ok := Rows(toksOf(pats))
	if !ok || len(rows) == 0 {
		t.Fatalf("%s: no rows", pats)
	}
	return rows
}

// matchers tells of each pattern what matches a whole text, by the library's regular expressions.
func matchers(t *testing.T, toks []api.Tok) (all []*regexp.Regexp) {
	t.Helper()
	for _, tok := range toks {
		items, ok := rex.Parse(tok.Rex)
		if !ok {
			t.Fatalf("%q is no pattern", tok.Rex)
		}
		all = append(all, regexp.MustCompile(`\A(?:`+expression(items)+`)\z`))
	}
	return all
}

func expression(items []api.Item) string {
	var waiting []string
	take := func() string {
		last := waiting[len(waiting)-1]
		waiting = waiting[:len(waiting)-1]
		return "(?:" + last + ")"
	}
	for _, item := range items {
		s := ""
		switch item.Op {
		case api.Class:
			for _, r := range item.L {
				s += fmt.Sprintf(`\x%02x-\x%02x`, r.Lo, r.Hi)
			}
			s = "[" + s + "]"
		case api.Join:
			second := take()
			s = take() + second
		case api.Alt:
			second := take()
			s = take() + "|" + second
		case api.Star:
			s = take() + "*"
		case api.Plus:
			s = take() + "+"
		case api.Maybe:
			s = take() + "?"
		}
		waiting = append(waiting, s)
	}
	return waiting[0]
}

// tokensBy tries at each place all lengths, the greatest first, and of each all kinds, the least first.
func tokensBy(all []*regexp.Regexp, s string) (l []api.Token) {
	for at := 0; at < len(s); {
		token := api.Token{Kind: -1, At: at, Len: 1}
	search:
		for n := len(s) - at; n > 0; n-- {
			for kind, one := range all {
				if one.MatchString(s[at : at+n]) {
					token.Kind, token.Len = kind, n
					break search
				}
			}
		}
		l = append(l, token)
		at += token.Len
	}
	return l
}

// textsUpTo tells all texts of at most n of those bytes.
func textsUpTo(n int, of string) iter.Seq[string] {
	return func(yield func(string) bool) {
		var longer func(s string) bool
		longer = func(s string) bool {
			if !yield(s) {
				return false
			}
			for i := 0; i < len(of) && len(s) < n; i++ {
				if !longer(s + of[i:i+1]) {
					return false
				}
			}
			return true
		}
		longer("")
	}
}

func anyText(chance *rand.Rand, of string, most int) string {
	var s []byte
	for range chance.Intn(most + 1) {
		s = append(s, of[chance.Intn(len(of))])
	}
	return string(s)
}
