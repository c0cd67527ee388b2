package expr

import (
	"reflect"
	"slices"
	"strings"
	"testing"

	"lemmata/api"
)

func list(l ...api.Val) api.Val { return api.Val{Kind: api.List, L: l} }

func set(l ...api.Val) api.Val { return api.Val{Kind: api.Set, L: l} }

func env(l ...api.Val) api.Val { return api.Val{Kind: api.Env, L: l} }

func pair(key string, v api.Val) api.Val { return list(str(key), v) }

// numbers makes a rising list of n of Size 1 each.
func numbers(n int) []api.Val {
	var l []api.Val
	for i := range n {
		l = append(l, num(int64(i)))
	}
	return l
}

func is(v api.Val) api.Expr { return api.Expr{Op: api.Const, V: v} }

func ref(occ, attr int) api.Expr { return api.Expr{Op: api.Ref, Occ: occ, Attr: attr} }

func op(o int, args ...api.Expr) api.Expr { return api.Expr{Op: o, Args: args} }

// ofVals is an operation on values.
func ofVals(o int, l ...api.Val) api.Expr {
	e := api.Expr{Op: o}
	for _, v := range l {
		e.Args = append(e.Args, is(v))
	}
	return e
}

// nots makes an expression that is depth deep.
func nots(depth int) api.Expr {
	e := is(truth(true))
	for range depth - 1 {
		e = op(api.Not, e)
	}
	return e
}

// holdsItself makes an expression that is each of its own arguments.
func holdsItself(o, width int) api.Expr {
	args := make([]api.Expr, width)
	for i := range args {
		args[i] = api.Expr{Op: o, Args: args}
	}
	return args[0]
}

// doubled makes an expression of 2^depth - 1 parts out of little memory.
func doubled(o, depth int, leaf api.Expr) api.Expr {
	e := leaf
	for range depth - 1 {
		e = op(o, e, e)
	}
	return e
}

// endlessVal is a List that holds itself.
func endlessVal() api.Val {
	l := make([]api.Val, 2)
	l[0], l[1] = list(l...), list(l...)
	l[0].L, l[1].L = l, l
	return list(l...)
}

// counts tells for each operation the least and the most arguments that it takes.
func counts() map[int][2]int {
	return map[int][2]int{
		api.Const: {0, 0}, api.Ref: {0, 0}, api.Text: {0, 0}, api.Num: {0, 0}, api.NoSet: {0, 0}, api.NoEnv: {0, 0},
		api.Not: {1, 1}, api.Len: {1, 1},
		api.If: {3, 3}, api.Put: {3, 3},
		api.Make: {0, api.MaxArgs},
		api.Add:  {2, 2}, api.Sub: {2, 2}, api.Mul: {2, 2}, api.Eq: {2, 2}, api.Less: {2, 2}, api.And: {2, 2}, api.Or: {2, 2},
		api.Cat: {2, 2}, api.Get: {2, 2}, api.Has: {2, 2}, api.Ins: {2, 2}, api.In: {2, 2},
	}
}

func withArgs(o, n int) api.Expr {
	e := api.Expr{Op: o}
	if o == api.Const {
		e.V = num(1)
	}
	for range n {
		e.Args = append(e.Args, is(num(1)))
	}
	return e
}

func TestMayCountsArguments(t *testing.T) {
	for o := -3; o <= api.NoEnv+3; o++ {
		count, ok := counts()[o]
		for n := range 8 {
			want := ok && count[0] <= n && n <= count[1]
			if got := May(withArgs(o, n)); got != want {
				t.Errorf("op %d of %d: %v", o, n, got)
			}
		}
	}
}

func TestMayHoldsOnlyWhatItsOpNames(t *testing.T) {
	for o, count := range counts() {
		e := withArgs(o, count[0])
		if !May(e) {
			t.Errorf("op %d", o)
		}
		takesOcc := o == api.Ref || o == api.Text || o == api.Num
		for occ := -2; occ <= api.MaxRight+2; occ++ {
			f := e
			f.Occ = occ
			want := occ == 0 || takesOcc && 0 <= occ && occ <= 5
			if got := May(f); got != want {
				t.Errorf("op %d, Occ %d: %v", o, occ, got)
			}
		}
		for attr := -2; attr <= 2*api.MaxAttrs+2; attr++ {
			f := e
			f.Attr = attr
			want := attr == 0 || o == api.Ref && 0 <= attr && attr <= 7
			if got := May(f); got != want {
				t.Errorf("op %d, Attr %d: %v", o, attr, got)
			}
		}
		for i, v := range []api.Val{{Kind: api.Int}, {I: 1}, {S: "x"}, {L: numbers(1)}} {
			f := e
			f.V = v
			want := o == api.Const && i == 0
			if got := May(f); got != want {
				t.Errorf("op %d, V %d: %v", o, i, got)
			}
		}
		f := e
		f.V.L = []api.Val{}
		f.Args = append([]api.Expr{}, f.Args...)
		if !May(f) {
			t.Errorf("op %d: an empty list is none", o)
		}
	}
}

func TestMayOfConst(t *testing.T) {
	for i, v := range []api.Val{num(-1), truth(true), str(""), str(strings.Repeat("x", 959)), list(), list(numbers(59)...), set(num(1), num(2)), env(pair("a", num(1)))} {
		if !May(is(v)) {
			t.Errorf("%d: it may be", i)
		}
	}
	for i, v := range []api.Val{{}, {Kind: api.Bool, I: 2}, {Kind: 8}, {Kind: -1}, bad(api.EArg), bad(api.EUndo), bad(0), str(strings.Repeat("x", 960)), list(numbers(60)...), set(num(2), num(1)), set(num(1), num(1)), env(num(1)), list(bad(api.EOver)), endlessVal()} {
		if May(is(v)) {
			t.Errorf("%d: it may not be", i)
		}
		if May(op(api.Not, is(v))) {
			t.Errorf("%d: nor what is made of it", i)
		}
	}
}

func TestMayOfDepth(t *testing.T) {
	if !May(nots(1)) || !May(nots(api.MaxDeep)) || May(nots(api.MaxDeep+1)) || May(nots(1000)) {
		t.Error("at most MaxDeep")
	}
	one := is(num(1))
	for at := range 3 {
		args := []api.Expr{one, one, one}
		args[at] = nots(api.MaxDeep - 1)
		if !May(op(api.If, args...)) {
			t.Errorf("argument %d may be that deep", at)
		}
		args[at] = nots(api.MaxDeep)
		if May(op(api.If, args...)) {
			t.Errorf("argument %d is too deep", at)
		}
	}
}

func TestMayAsksEachArgument(t *testing.T) {
	for n := 1; n <= api.MaxArgs; n++ {
		for at := range n {
			e := withArgs(api.Make, n)
			e.Args[at] = api.Expr{Op: api.NoEnv + 1}
			if May(e) || May(op(api.Len, e)) {
				t.Errorf("argument %d of %d", at, n)
			}
		}
	}
}

func TestRefs(t *testing.T) {
	none := []api.Expr{is(num(1)), {}, {Op: api.Text, Occ: 3}, {Op: api.Num, Occ: 2}, op(api.Make), {Op: api.NoSet}, {Op: 99}, {Op: -1}}
	for i, e := range none {
		if got := Refs(e); len(got) != 0 {
			t.Errorf("%d: %v", i, got)
		}
	}
	add := func(a, b api.Expr) api.Expr { return op(api.Add, a, b) }
	for i, x := range []struct {
		e    api.Expr
		want [][2]int
	}{
		{ref(0, 0), [][2]int{{0, 0}}},
		{ref(5, 7), [][2]int{{5, 7}}},
		{add(ref(2, 1), ref(1, 2)), [][2]int{{2, 1}, {1, 2}}},
		{add(add(ref(4, 0), ref(3, 0)), add(ref(2, 0), ref(1, 0))), [][2]int{{4, 0}, {3, 0}, {2, 0}, {1, 0}}},
		{add(ref(1, 1), add(ref(1, 1), ref(1, 1))), [][2]int{{1, 1}, {1, 1}, {1, 1}}},
		{op(api.If, ref(1, 0), api.Expr{Op: api.Text, Occ: 4}, ref(0, 3)), [][2]int{{1, 0}, {0, 3}}},
		{op(api.Make, ref(1, 0), is(str("q")), op(api.Not, ref(2, 0)), ref(3, 0)), [][2]int{{1, 0}, {2, 0}, {3, 0}}},
		// of what may not be, too
		{ref(-1, 99), [][2]int{{-1, 99}}},
		{op(99, ref(1, 0), ref(2, 0)), [][2]int{{1, 0}, {2, 0}}},
		{api.Expr{Op: api.Ref, Occ: 1, Args: []api.Expr{ref(2, 0)}}, [][2]int{{1, 0}, {2, 0}}},
	} {
		if got := Refs(x.e); !slices.Equal(got, x.want) {
			t.Errorf("%d: %v", i, got)
		}
	}
}

func TestRefsFarDown(t *testing.T) {
	e := ref(1, 2)
	for range mostNested - 1 {
		e = op(api.Not, e)
	}
	if got := Refs(e); !slices.Equal(got, [][2]int{{1, 2}}) {
		t.Errorf("%v", got)
	}
	if got := Refs(doubled(api.Add, 20, ref(3, 1))); len(got) != 1<<19 || got[1<<19-1] != [2]int{3, 1} {
		t.Errorf("%d", len(got))
	}
}

func TestRefsAreNewMemory(t *testing.T) {
	e := op(api.Add, ref(1, 2), ref(3, 4))
	first := Refs(e)
	first[0], first[1] = [2]int{9, 9}, [2]int{9, 9}
	if got := Refs(e); !slices.Equal(got, [][2]int{{1, 2}, {3, 4}}) {
		t.Errorf("%v", got)
	}
}

func TestAllEndsOnWhatHoldsItself(t *testing.T) {
	for o := -1; o <= api.NoEnv+1; o++ {
		for width := 1; width <= 5; width++ {
			e := holdsItself(o, width)
			if got := May(e); got {
				t.Errorf("op %d of %d may not be", o, width)
			}
			if got := Refs(e); got != nil {
				t.Errorf("op %d of %d: %d Refs", o, width, len(got))
			}
			if got := Eval(e, nil, nil); !reflect.DeepEqual(got, bad(api.EArg)) {
				t.Errorf("op %d of %d: %v", o, width, got)
			}
		}
	}
	for o := range api.NoEnv + 1 {
		May(doubled(o, 1000, is(num(1))))
		Eval(doubled(o, 1000, is(num(1))), nil, nil)
		Eval(doubled(o, api.MaxDeep, is(num(1))), nil, nil)
	}
	if got := Refs(doubled(api.Add, 100, ref(1, 1))); got != nil {
		t.Errorf("%d Refs", len(got))
	}
	wide := holdsItself(api.Make, 100000)
	if May(wide) || Eval(wide, nil, nil).Kind != api.Bad {
		t.Error("wide")
	}
}
