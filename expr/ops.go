package expr

import (
	"math"
	"slices"

	"lemmata/api"
	"lemmata/val"
)

// reckon is of operations that take all their arguments as values, none of them Bad, and as many as there are to be.
func reckon(op int, args []api.Val) api.Val {
	switch op {
	case api.NoSet:
		return api.Val{Kind: api.Set}
	case api.NoEnv:
		return api.Val{Kind: api.Env}
	case api.Make:
		return api.Val{Kind: api.List, L: args}
	case api.Not:
		return not(args[0])
	case api.Len:
		return length(args[0])
	case api.Put:
		put := func(env []api.Val, key string) api.Val { return withPair(env, key, args[2]) }
		return work[[]api.Val, string]{asEnv, asStr, put}.of(args[0], args[1])
	}
	return reckonTwo(op, args[0], args[1])
}

func reckonTwo(op int, a, b api.Val) api.Val {
	switch op {
	case api.Add:
		return work[int64, int64]{asInt, asInt, add}.of(a, b)
	case api.Sub:
		return work[int64, int64]{asInt, asInt, sub}.of(a, b)
	case api.Mul:
		return work[int64, int64]{asInt, asInt, mul}.of(a, b)
	case api.Eq:
		return work[api.Val, api.Val]{asAny, asAny, equal}.of(a, b)
	case api.Less:
		return work[api.Val, api.Val]{asAny, asAny, less}.of(a, b)
	case api.And:
		return work[bool, bool]{asBool, asBool, and}.of(a, b)
	case api.Or:
		return work[bool, bool]{asBool, asBool, or}.of(a, b)
	case api.Cat:
		if a.Kind == api.Str {
			return work[string, string]{asStr, asStr, catStrs}.of(a, b)
		}
		return work[[]api.Val, []api.Val]{asList, asList, catLists}.of(a, b)
	case api.Get:
		return work[[]api.Val, string]{asEnv, asStr, get}.of(a, b)
	case api.Has:
		return work[[]api.Val, string]{asEnv, asStr, has}.of(a, b)
	case api.Ins:
		return work[[]api.Val, api.Val]{asSet, asAny, insert}.of(a, b)
	case api.In:
		return work[[]api.Val, api.Val]{asSet, asAny, in}.of(a, b)
	}
	return bad(api.EArg)
}

func add(a, b int64) api.Val {
	sum := a + b
	return numIf((sum > a) == (b > 0), sum)
}

func sub(a, b int64) api.Val {
	rest := a - b
	return numIf((rest < a) == (b > 0), rest)
}

func mul(a, b int64) api.Val {
	product := a * b
	// The lowest number divided by -1 comes round to itself, so that division does not tell.
	round := a == -1 && b == math.MinInt64
	return numIf(a == 0 || product/a == b && !round, product)
}

// numIf is the number n, unless it came round.
func numIf(ok bool, n int64) api.Val {
	if !ok {
		return bad(api.EOver)
	}
	return num(n)
}

func equal(a, b api.Val) api.Val { return truth(val.Compare(a, b) == 0) }

func less(a, b api.Val) api.Val { return truth(val.Compare(a, b) < 0) }

func and(a, b bool) api.Val { return truth(a && b) }

func or(a, b bool) api.Val { return truth(a || b) }

func not(v api.Val) api.Val {
	is, ok := asBool(v)
	if !ok {
		return bad(api.EType)
	}
	return truth(!is)
}

func length(v api.Val) api.Val {
	switch v.Kind {
	case api.Str:
		return num(int64(len(v.S)))
	case api.List, api.Set, api.Env:
		return num(int64(len(v.L)))
	}
	return bad(api.EType)
}

func catStrs(a, b string) api.Val { return str(a + b) }

func catLists(a, b []api.Val) api.Val {
	return api.Val{Kind: api.List, L: slices.Concat(a, b)}
}

func withPair(env []api.Val, key string, v api.Val) api.Val {
	pair := api.Val{Kind: api.List, L: []api.Val{str(key), v}}
	at, there := val.Find(env, key)
	after := at
	if there {
		after++
	}
	return api.Val{Kind: api.Env, L: slices.Concat(env[:at], []api.Val{pair}, env[after:])}
}

func get(env []api.Val, key string) api.Val {
	at, there := val.Find(env, key)
	if !there {
		return bad(api.ENone)
	}
	return env[at].L[1]
}

func has(env []api.Val, key string) api.Val {
	_, there := val.Find(env, key)
	return truth(there)
}

func insert(set []api.Val, v api.Val) api.Val {
	return api.Val{Kind: api.Set, L: val.Ins(set, v)}
}

func in(set []api.Val, v api.Val) api.Val {
	_, there := slices.BinarySearchFunc(set, v, val.Compare)
	return truth(there)
}

func num(n int64) api.Val { return api.Val{Kind: api.Int, I: n} }

func str(s string) api.Val { return api.Val{Kind: api.Str, S: s} }

func bad(err api.Errno) api.Val { return api.Val{Kind: api.Bad, I: int64(err)} }

func truth(is bool) api.Val {
	if is {
		return api.Val{Kind: api.Bool, I: 1}
	}
	return api.Val{Kind: api.Bool}
}
