package expr

import "lemmata/api"

// kind reads the values of one kind as a T, and says no of all others.
type kind[T any] func(v api.Val) (T, bool)

// work is what is reckoned of an A and a B; of other kinds it is not.
type work[A, B any] struct {
	first  kind[A]
	second kind[B]
	reckon func(a A, b B) api.Val
}

func (w work[A, B]) of(v, u api.Val) api.Val {
	a, ok := w.first(v)
	if !ok {
		return bad(api.EType)
	}
	b, ok := w.second(u)
	if !ok {
		return bad(api.EType)
	}
	return w.reckon(a, b)
}

// shelf is a list that may be asked at any place, there or not.
type shelf[T any] []T

func (s shelf[T]) at(i int) (T, bool) {
	if i < 0 || i >= len(s) {
		var none T
		return none, false
	}
	return s[i], true
}

func asInt(v api.Val) (int64, bool) { return v.I, v.Kind == api.Int }

func asBool(v api.Val) (bool, bool) { return v.I == 1, v.Kind == api.Bool }

func asStr(v api.Val) (string, bool) { return v.S, v.Kind == api.Str }

func asList(v api.Val) ([]api.Val, bool) { return v.L, v.Kind == api.List }

func asSet(v api.Val) ([]api.Val, bool) { return v.L, v.Kind == api.Set }

func asEnv(v api.Val) ([]api.Val, bool) { return v.L, v.Kind == api.Env }

func asAny(v api.Val) (api.Val, bool) { return v, true }
