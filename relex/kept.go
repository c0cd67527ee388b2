package relex

import (
	"iter"

	"lemmata/api"
)

// texts are a text as it was, and as it is.
type texts struct{ was, is string }

// kept counts the tokens of l that stay among m: at the end only of those that the front leaves on both sides, so that none counts twice.
func (x texts) kept(l, m []api.Token) int {
	front := x.staying(fromFront(l, m), 0)
	end := x.staying(fromEnd(l[front:], m[front:]), len(x.is)-len(x.was))
	return front + end
}

// staying counts the pairs ahead of the first whose token is another one, or was not moved by so much.
func (x texts) staying(pairs iter.Seq2[api.Token, api.Token], moved int) int {
	n := 0
	for old, now := range pairs {
		if !x.same(old, now, moved) {
			break
		}
		n++
	}
	return n
}

// same takes any token as the old one; the new one is of the text as it is.
func (x texts) same(old, now api.Token, moved int) bool {
	if !within(old.At, old.Len, len(x.was)) {
		return false
	}
	text := x.was[old.At : old.At+old.Len]
	old.At += moved
	return old == now && text == x.is[now.At:now.At+now.Len]
}

// fromFront tells pairs of both lists, the first ones first, as long as both have one.
func fromFront(l, m []api.Token) iter.Seq2[api.Token, api.Token] {
	return func(yield func(old, now api.Token) bool) {
		for i := range min(len(l), len(m)) {
			if !yield(l[i], m[i]) {
				return
			}
		}
	}
}

// fromEnd tells pairs of both lists, the last ones first, as long as both have one.
func fromEnd(l, m []api.Token) iter.Seq2[api.Token, api.Token] {
	return func(yield func(old, now api.Token) bool) {
		for i := range min(len(l), len(m)) {
			if !yield(l[len(l)-1-i], m[len(m)-1-i]) {
				return
			}
		}
	}
}
