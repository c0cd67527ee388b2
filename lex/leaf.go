package lex

import "lemmata/api"

// leafOf says no of a token that is passed over, or does not lie within s.
func leafOf(toks []api.Tok, token api.Token, s string) (api.Leaf, bool) {
	text, ok := textOf(token, s)
	if !ok {
		return api.Leaf{}, false
	}
	if token.Kind < 0 || token.Kind >= len(toks) {
		return api.Leaf{Kind: noKind, Text: text}, true
	}
	if toks[token.Kind].Skip {
		return api.Leaf{}, false
	}
	return api.Leaf{Kind: token.Kind, Text: text}, true
}

// textOf tells a copy, so that a leaf does not keep the whole of s.
func textOf(token api.Token, s string) (string, bool) {
	// At and Len together may be beyond an int. What is left from At on is not: it is below 0 where At is beyond s.
	if token.At < 0 || token.Len < 0 || token.Len > len(s)-token.At {
		return "", false
	}
	return string([]byte(s[token.At : token.At+token.Len])), true
}
