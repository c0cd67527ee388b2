package lex

import (
	"iter"

	"lemmata/api"
	"lemmata/dfa"
)

// noKind is the kind of a byte at which no token begins.
const noKind = -1

// tokens tells those of s one by one, each from where the one ahead of it ends.
func tokens(rows []api.Row, s string) iter.Seq[api.Token] {
	return func(yield func(api.Token) bool) {
		for at := 0; at < len(s); {
			token := first(rows, s[at:])
			token.At = at
			if !yield(token) {
				return
			}
			at += token.Len
		}
	}
}

// first tells the token at the front of s. Its Len is one at least, so that tokens come to an end.
func first(rows []api.Row, s string) api.Token {
	kind, n, ok := dfa.Longest(rows, s)
	if !ok {
		return api.Token{Kind: noKind, Len: 1}
	}
	return api.Token{Kind: kind, Len: n}
}
