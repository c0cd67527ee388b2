// Package val: values, in an order: see doc/01-val.md.
package val

import (
	"cmp"
	"math"
	"slices"
	"strings"

	"lemmata/api"
)

// A list may hold itself, or one list many times over: what goes through values stops at these bounds, beyond which the document promises nothing.
const (
	mostSize   = math.MaxInt32
	mostNested = 1 << 16
	// A value takes up to 64 bytes: more of them are no answer of at most 2^31 - 1 bytes.
	mostWalked = math.MaxInt32 / 64
)

// How many bytes of a text weigh as much as one value.
const bytesPerUnit = 16

// May tells whether v is a value.
func May(v api.Val) bool {
	return measure(v, api.MaxSize+1, api.MaxSize) <= api.MaxSize && fits(v)
}

// Size tells how great v is.
func Size(v api.Val) int {
	return measure(v, mostSize, mostNested)
}

// Compare tells how a and b stand in the row of all values: -1, 0, 1.
func Compare(a, b api.Val) int {
	// It is enough that one of the two comes to an end.
	if beyond(a) && beyond(b) {
		return 0
	}
	return order(a, b)
}

// Ins answers l, which rises, with v in its place.
func Ins(l []api.Val, v api.Val) []api.Val {
	if beyond(api.Val{L: l}) || beyond(v) {
		return nil
	}
	return copyAll(row[api.Val]{l, order}.with(v))
}

// Find tells where in l, an Env's pairs, the pair of key stands, or, beside a no, where it would stand.
func Find(l []api.Val, key string) (int, bool) {
	pair := api.Val{L: []api.Val{{S: key}}}
	return row[api.Val]{l, orderOfKeys}.place(pair)
}

// measure is Size, but most where it comes to that, or where lists are nested more than deep.
func measure(v api.Val, most, deep int) int {
	if deep == 0 && len(v.L) > 0 {
		return most
	}
	n := 1 + len(v.S)/bytesPerUnit
	for _, part := range v.L {
		if n >= most {
			break
		}
		n += measure(part, most-n, deep-1)
	}
	return min(n, most)
}

func beyond(v api.Val) bool {
	return measure(v, mostWalked, mostNested) >= mostWalked
}

// order is Compare of values that are known to come to an end.
func order(a, b api.Val) int {
	if c := cmp.Compare(a.Kind, b.Kind); c != 0 {
		return c
	}
	if c := cmp.Compare(a.I, b.I); c != 0 {
		return c
	}
	if c := strings.Compare(a.S, b.S); c != 0 {
		return c
	}
	return slices.CompareFunc(a.L, b.L, order)
}

func orderOfKeys(a, b api.Val) int {
	return strings.Compare(keyOf(a), keyOf(b))
}

// keyOf is empty of what is no pair, for Find may be handed anything.
func keyOf(pair api.Val) string {
	if len(pair.L) == 0 {
		return ""
	}
	return pair.L[0].S
}

// fits is May of a value that is known to be small enough.
func fits(v api.Val) bool {
	switch v.Kind {
	case api.Int:
		return v.S == "" && len(v.L) == 0
	case api.Bool:
		return (v.I == 0 || v.I == 1) && v.S == "" && len(v.L) == 0
	case api.Str:
		return v.I == 0 && len(v.L) == 0
	case api.List:
		return holdsParts(v)
	case api.Set:
		return holdsParts(v) && row[api.Val]{v.L, order}.rises()
	case api.Env:
		return holdsParts(v) && arePairs(v.L) && row[api.Val]{v.L, orderOfKeys}.rises()
	case api.Bad:
		return isErrno(v.I) && v.S == "" && len(v.L) == 0
	}
	return false
}

func holdsParts(v api.Val) bool {
	if v.I != 0 || v.S != "" {
		return false
	}
	for _, part := range v.L {
		if part.Kind == api.Bad || !fits(part) {
			return false
		}
	}
	return true
}

func arePairs(l []api.Val) bool {
	for _, v := range l {
		if v.Kind != api.List || len(v.L) != 2 || v.L[0].Kind != api.Str {
			return false
		}
	}
	return true
}

func isErrno(i int64) bool {
	return int64(api.EArg) <= i && i <= int64(api.EUndo)
}

// copyAll keeps nothing of l's memory, at no depth.
func copyAll(l []api.Val) []api.Val {
	if l == nil {
		return nil
	}
	out := make([]api.Val, len(l))
	for i, v := range l {
		v.L = copyAll(v.L)
		out[i] = v
	}
	return out
}
