package expr

import (
	"math"
	"math/big"
	"reflect"
	"slices"
	"strings"
	"testing"

	"lemmata/api"
	"lemmata/val"
)

// samples: values of each kind, the empty and the greatest among them.
func samples() []api.Val {
	return []api.Val{
		num(math.MinInt64), num(-3), num(-1), num(0), num(1), num(2), num(1 << 31), num(1 << 32), num(math.MaxInt64),
		truth(false), truth(true),
		str(""), str("a"), str("b"), str("ab"), str(strings.Repeat("y", 959)),
		list(), list(num(1)), list(num(2), str("a")), list(list(num(5)), set(num(6))), list(numbers(59)...),
		set(), set(num(1)), set(num(1), num(3)), set(numbers(59)...), set(list(num(1)), list(num(2))),
		env(), env(pair("a", num(1))), env(pair("a", list(num(1))), pair("ab", num(2)), pair("c", num(3))), env(pair("b", list(numbers(55)...))),
	}
}

func isOp(t *testing.T, o int, args []api.Val, want api.Val) {
	t.Helper()
	if got := Eval(ofVals(o, args...), nil, nil); val.Compare(got, want) != 0 {
		t.Errorf("op %d of %v: %v, not %v", o, args, got, want)
	}
}

func TestEvalConst(t *testing.T) {
	for _, v := range samples() {
		if got := Eval(is(v), nil, nil); val.Compare(got, v) != 0 {
			t.Errorf("%v: %v", v, got)
		}
	}
	isOp(t, api.Const, nil, bad(api.EArg)) // of no value
}

func TestEvalRef(t *testing.T) {
	vals := [][]api.Val{{num(7), str("x")}, nil, {bad(api.ESize), list(num(1), num(2))}}
	for i, x := range []struct {
		occ, attr int
		want      api.Val
	}{
		{0, 0, num(7)}, {0, 1, str("x")}, {2, 0, bad(api.ESize)}, {2, 1, list(num(1), num(2))},
		{0, 2, bad(api.ENone)}, {1, 0, bad(api.ENone)}, {3, 0, bad(api.ENone)}, {2, 2, bad(api.ENone)},
		{-1, 0, bad(api.ENone)}, {0, -1, bad(api.ENone)}, {math.MaxInt, 0, bad(api.ENone)}, {0, math.MinInt, bad(api.ENone)},
	} {
		if got := Eval(ref(x.occ, x.attr), vals, []string{"q", "q", "q", "q"}); val.Compare(got, x.want) != 0 {
			t.Errorf("%d: %v", i, got)
		}
	}
	if got := Eval(ref(0, 0), nil, nil); val.Compare(got, bad(api.ENone)) != 0 {
		t.Errorf("of none: %v", got)
	}
}

func TestEvalText(t *testing.T) {
	texts := []string{"", "abc", strings.Repeat("z", 959), strings.Repeat("z", 960), "\xff\x00"}
	want := []api.Val{str(""), str("abc"), str(texts[2]), bad(api.ESize), str("\xff\x00")}
	for i, w := range want {
		if got := Eval(api.Expr{Op: api.Text, Occ: i}, nil, texts); val.Compare(got, w) != 0 {
			t.Errorf("%d: %v", i, got)
		}
	}
	for _, occ := range []int{-1, 5, math.MaxInt, math.MinInt} {
		for _, o := range []int{api.Text, api.Num} {
			if got := Eval(api.Expr{Op: o, Occ: occ}, [][]api.Val{{num(1)}}, texts); val.Compare(got, bad(api.ENone)) != 0 {
				t.Errorf("op %d at %d: %v", o, occ, got)
			}
		}
	}
}

func TestEvalNum(t *testing.T) {
	for text, want := range map[string]int64{"0": 0, "9": 9, "10": 10, "042": 42, "000000000000000000": 0, "999999999999999999": 999999999999999999, "123456789012345678": 123456789012345678} {
		if got := Eval(api.Expr{Op: api.Num}, nil, []string{text}); val.Compare(got, num(want)) != 0 {
			t.Errorf("%q: %v", text, got)
		}
	}
	for _, text := range []string{"", " 1", "1 ", "-1", "+1", "1_0", "0x1", "1.", "1e1", "a", "/", ":", "12/", "12:", "0000000000000000001", "9223372036854775807", "99999999999999999999999999", "\xd9\xa1", strings.Repeat("1", 2000)} {
		if got := Eval(api.Expr{Op: api.Num}, nil, []string{text}); val.Compare(got, bad(api.EForm)) != 0 {
			t.Errorf("%q: %v", text, got)
		}
	}
}

// TestEvalOfNumbers holds each of the three against numbers without bounds.
func TestEvalOfNumbers(t *testing.T) {
	edge := []int64{0, 1, 2, 3, 7, 1 << 31, 1<<31 - 1, 1<<31 + 1, 1 << 32, 3037000499, 3037000500, 1 << 62, 1<<62 - 1, math.MaxInt64 - 1, math.MaxInt64, math.MinInt64, math.MinInt64 + 1, math.MinInt64 / 2, math.MinInt64/2 - 1, math.MaxInt64/2 + 1, math.MaxInt64 / 3}
	for _, n := range edge {
		edge = append(edge, -n)
	}
	laws := map[int]func(z, x, y *big.Int) *big.Int{api.Add: (*big.Int).Add, api.Sub: (*big.Int).Sub, api.Mul: (*big.Int).Mul}
	for o, law := range laws {
		for _, a := range edge {
			for _, b := range edge {
				sum := law(new(big.Int), big.NewInt(a), big.NewInt(b))
				want := bad(api.EOver)
				if sum.IsInt64() {
					want = num(sum.Int64())
				}
				isOp(t, o, []api.Val{num(a), num(b)}, want)
			}
		}
	}
}

func TestEvalOfAnyTwo(t *testing.T) {
	l := samples()
	for _, a := range l {
		for _, b := range l {
			isOp(t, api.Eq, []api.Val{a, b}, truth(val.Compare(a, b) == 0))
			isOp(t, api.Less, []api.Val{a, b}, truth(val.Compare(a, b) == -1))
		}
	}
	isOp(t, api.Eq, []api.Val{list(num(1), str("a")), list(num(1), str("a"))}, truth(true))
	isOp(t, api.Eq, []api.Val{num(1), truth(true)}, truth(false))
	isOp(t, api.Less, []api.Val{num(9), truth(false)}, truth(true))
}

func TestEvalOfBools(t *testing.T) {
	yes, no := truth(true), truth(false)
	for _, x := range [][4]bool{{false, false, false, false}, {false, true, false, true}, {true, false, false, true}, {true, true, true, true}} {
		args := []api.Val{truth(x[0]), truth(x[1])}
		isOp(t, api.And, args, truth(x[2]))
		isOp(t, api.Or, args, truth(x[3]))
	}
	isOp(t, api.Not, []api.Val{no}, yes)
	isOp(t, api.Not, []api.Val{yes}, no)
	// neither is left unasked, whatever the other is
	isOp(t, api.And, []api.Val{no, num(1)}, bad(api.EType))
	isOp(t, api.Or, []api.Val{yes, str("")}, bad(api.EType))
}

func TestEvalIf(t *testing.T) {
	none := ref(9, 9)
	size := is(bad(api.ESize))
	yes, no, four := is(truth(true)), is(truth(false)), is(num(4))
	for i, x := range []struct {
		args []api.Expr
		want api.Val
	}{
		{[]api.Expr{yes, four, none}, num(4)}, {[]api.Expr{no, none, four}, num(4)},
		{[]api.Expr{yes, none, four}, bad(api.ENone)}, {[]api.Expr{no, four, size}, bad(api.ESize)},
		{[]api.Expr{size, none, none}, bad(api.ESize)}, {[]api.Expr{none, four, four}, bad(api.ENone)},
		{[]api.Expr{four, none, none}, bad(api.EType)}, {[]api.Expr{is(str("")), four, four}, bad(api.EType)}, {[]api.Expr{is(num(0)), four, four}, bad(api.EType)},
		{[]api.Expr{yes, four, {Op: 99}}, num(4)}, {[]api.Expr{no, {Op: 99}, op(api.Make)}, list()},
		{[]api.Expr{ofVals(api.Less, num(1), num(2)), ofVals(api.Add, num(1), num(2)), none}, num(3)},
		{[]api.Expr{op(api.If, no, no, yes), op(api.If, no, none, four), none}, num(4)},
	} {
		if got := Eval(op(api.If, x.args...), nil, nil); val.Compare(got, x.want) != 0 {
			t.Errorf("%d: %v", i, got)
		}
	}
}

func TestEvalOfRows(t *testing.T) {
	ab := list(num(2), str("q"))
	isOp(t, api.Cat, []api.Val{str("ab"), str("c")}, str("abc"))
	isOp(t, api.Cat, []api.Val{str(""), str("")}, str(""))
	isOp(t, api.Cat, []api.Val{ab, list(num(9))}, list(num(2), str("q"), num(9)))
	isOp(t, api.Cat, []api.Val{list(num(9)), ab}, list(num(9), num(2), str("q")))
	isOp(t, api.Cat, []api.Val{list(), list()}, list())
	isOp(t, api.Make, nil, list())
	isOp(t, api.Make, []api.Val{ab}, list(ab))
	isOp(t, api.Make, []api.Val{num(1), ab, set(num(1)), env()}, list(num(1), ab, set(num(1)), env()))
	isOp(t, api.Len, []api.Val{str("")}, num(0))
	isOp(t, api.Len, []api.Val{str("\xc3\xa9x")}, num(3))
	isOp(t, api.Len, []api.Val{list(ab, ab)}, num(2))
	isOp(t, api.Len, []api.Val{set(numbers(7)...)}, num(7))
	isOp(t, api.Len, []api.Val{env(pair("a", num(1)))}, num(1))
}

func TestEvalOfEnvs(t *testing.T) {
	e := env(pair("a", num(1)), pair("c", list(num(3))))
	for key, want := range map[string]api.Val{
		"":   env(pair("", str("n")), pair("a", num(1)), pair("c", list(num(3)))),
		"a":  env(pair("a", str("n")), pair("c", list(num(3)))),
		"aa": env(pair("a", num(1)), pair("aa", str("n")), pair("c", list(num(3)))),
		"c":  env(pair("a", num(1)), pair("c", str("n"))),
		"d":  env(pair("a", num(1)), pair("c", list(num(3))), pair("d", str("n"))),
	} {
		isOp(t, api.Put, []api.Val{e, str(key), str("n")}, want)
		there := key == "a" || key == "c"
		isOp(t, api.Has, []api.Val{e, str(key)}, truth(there))
		isOp(t, api.Has, []api.Val{want, str(key)}, truth(true))
		isOp(t, api.Get, []api.Val{want, str(key)}, str("n"))
		if !there {
			isOp(t, api.Get, []api.Val{e, str(key)}, bad(api.ENone))
		}
	}
	isOp(t, api.Get, []api.Val{e, str("a")}, num(1))
	isOp(t, api.Get, []api.Val{e, str("c")}, list(num(3)))
	isOp(t, api.Get, []api.Val{env(), str("")}, bad(api.ENone))
	isOp(t, api.Has, []api.Val{env(), str("")}, truth(false))
	isOp(t, api.Put, []api.Val{env(), str("k"), env()}, env(pair("k", env())))
}

func TestEvalOfSets(t *testing.T) {
	s := set(num(1), num(3), list())
	isOp(t, api.Ins, []api.Val{s, num(2)}, set(num(1), num(2), num(3), list()))
	isOp(t, api.Ins, []api.Val{s, num(0)}, set(num(0), num(1), num(3), list()))
	isOp(t, api.Ins, []api.Val{s, set()}, set(num(1), num(3), list(), set()))
	isOp(t, api.Ins, []api.Val{set(), s}, set(s))
	for _, v := range s.L {
		isOp(t, api.Ins, []api.Val{s, v}, s)
		isOp(t, api.In, []api.Val{s, v}, truth(true))
	}
	for _, v := range []api.Val{num(0), num(2), num(4), truth(true), str("1"), list(num(1)), set()} {
		isOp(t, api.In, []api.Val{s, v}, truth(false))
	}
	isOp(t, api.In, []api.Val{set(), num(1)}, truth(false))
	if got := Eval(api.Expr{Op: api.NoSet}, nil, nil); val.Compare(got, set()) != 0 {
		t.Errorf("%v", got)
	}
	if got := Eval(api.Expr{Op: api.NoEnv}, nil, nil); val.Compare(got, env()) != 0 {
		t.Errorf("%v", got)
	}
}

// TestEvalOfAnotherKind: what each operation takes, and no more.
func TestEvalOfAnotherKind(t *testing.T) {
	kinds := map[int]api.Val{api.Int: num(1), api.Bool: truth(true), api.Str: str("k"), api.List: list(num(1)), api.Set: set(num(1)), api.Env: env(pair("k", num(1)))}
	any6 := []int{api.Int, api.Bool, api.Str, api.List, api.Set, api.Env}
	type two struct{ first, second []int }
	takes := map[int]two{
		api.Add: {[]int{api.Int}, []int{api.Int}}, api.Sub: {[]int{api.Int}, []int{api.Int}}, api.Mul: {[]int{api.Int}, []int{api.Int}},
		api.Eq: {any6, any6}, api.Less: {any6, any6},
		api.And: {[]int{api.Bool}, []int{api.Bool}}, api.Or: {[]int{api.Bool}, []int{api.Bool}},
		api.Cat: {[]int{api.Str, api.List}, []int{api.Str, api.List}},
		api.Get: {[]int{api.Env}, []int{api.Str}}, api.Has: {[]int{api.Env}, []int{api.Str}},
		api.Ins: {[]int{api.Set}, any6}, api.In: {[]int{api.Set}, any6},
		api.Put: {[]int{api.Env}, []int{api.Str}},
	}
	isBadType := func(o int, args ...api.Val) bool {
		return val.Compare(Eval(ofVals(o, args...), nil, nil), bad(api.EType)) == 0
	}
	for a, v := range kinds {
		for b, u := range kinds {
			for o, k := range takes {
				args := []api.Val{v, u}
				if o == api.Put {
					args = append(args, v)
				}
				want := !slices.Contains(k.first, a) || !slices.Contains(k.second, b) || o == api.Cat && a != b
				if isBadType(o, args...) != want {
					t.Errorf("op %d of kinds %d, %d", o, a, b)
				}
			}
		}
		if isBadType(api.Not, v) != (a != api.Bool) || isBadType(api.Len, v) != (a == api.Int || a == api.Bool) || isBadType(api.If, v, v, v) != (a != api.Bool) {
			t.Errorf("one of kind %d", a)
		}
	}
}

// TestEvalFirstBad: the first that is Bad is told, ahead of what is wrong with the others.
func TestEvalFirstBad(t *testing.T) {
	vals := [][]api.Val{{bad(api.ESize), bad(api.EOver), bad(api.EForm), num(1)}}
	for o, count := range counts() {
		n := count[1]
		if n == 0 || o == api.If {
			continue
		}
		for at := range n {
			e := api.Expr{Op: o}
			for i := range n {
				e.Args = append(e.Args, ref(0, 3))
				if i >= at {
					e.Args[i] = ref(0, i-at) // ESize first, then others
				}
			}
			want := bad(api.ESize)
			if got := Eval(e, vals, nil); val.Compare(got, want) != 0 {
				t.Errorf("op %d, first at %d: %v", o, at, got)
			}
			if got := Eval(op(api.Make, is(num(1)), e), vals, nil); val.Compare(got, want) != 0 {
				t.Errorf("op %d, first at %d, above: %v", o, at, got)
			}
		}
	}
}

func TestEvalSize(t *testing.T) {
	wide := list(numbers(57)...) // of Size 58
	one := num(1)
	isOp(t, api.Make, []api.Val{wide, one}, list(wide, one))
	isOp(t, api.Make, []api.Val{wide, one, one}, bad(api.ESize))
	isOp(t, api.Cat, []api.Val{wide, list(one, one)}, list(append(numbers(57), one, one)...))
	isOp(t, api.Cat, []api.Val{wide, list(one, one, one)}, bad(api.ESize))
	isOp(t, api.Cat, []api.Val{str(strings.Repeat("y", 900)), str(strings.Repeat("y", 59))}, str(strings.Repeat("y", 959)))
	isOp(t, api.Cat, []api.Val{str(strings.Repeat("y", 900)), str(strings.Repeat("y", 60))}, bad(api.ESize))
	full := set(numbers(59)...)
	isOp(t, api.Ins, []api.Val{full, num(58)}, full)
	isOp(t, api.Ins, []api.Val{full, num(59)}, bad(api.ESize))
	isOp(t, api.Put, []api.Val{env(), str("k"), list(numbers(56)...)}, env(pair("k", list(numbers(56)...))))
	isOp(t, api.Put, []api.Val{env(), str("k"), list(numbers(57)...)}, bad(api.ESize))
	most := env(pair("k", list(numbers(56)...)))
	isOp(t, api.Put, []api.Val{most, str("k"), one}, env(pair("k", one)))
	isOp(t, api.Put, []api.Val{most, str("l"), one}, bad(api.ESize))
	// what is too great on the way is too great in the end
	if got := Eval(op(api.Len, ofVals(api.Cat, wide, wide)), nil, nil); val.Compare(got, bad(api.ESize)) != 0 {
		t.Errorf("%v", got)
	}
}

func TestEvalOfNoOp(t *testing.T) {
	for o := -3; o <= api.NoEnv+3; o++ {
		count, ok := counts()[o]
		for n := range count[0] + 1 {
			if ok && n == count[0] {
				continue
			}
			e := withArgs(o, n)
			for i := range e.Args {
				e.Args[i] = is(bad(api.EForm)) // it is not asked
			}
			if got := Eval(e, nil, nil); val.Compare(got, bad(api.EArg)) != 0 {
				t.Errorf("op %d of %d: %v", o, n, got)
			}
			if got := Eval(op(api.Make, is(num(1)), e), nil, nil); val.Compare(got, bad(api.EArg)) != 0 {
				t.Errorf("op %d of %d, beneath: %v", o, n, got)
			}
		}
	}
}

func TestEvalDeep(t *testing.T) {
	if got := Eval(nots(api.MaxDeep), nil, nil); val.Compare(got, truth(false)) != 0 {
		t.Errorf("%v", got)
	}
	if got := Eval(nots(api.MaxDeep-1), nil, nil); val.Compare(got, truth(true)) != 0 {
		t.Errorf("%v", got)
	}
	if got := Eval(doubled(api.Add, api.MaxDeep, is(num(1))), nil, nil); val.Compare(got, num(1<<11)) != 0 {
		t.Errorf("%v", got)
	}
}

// TestEvalMayBe: whatever it is handed, it is a value that may be.
func TestEvalMayBe(t *testing.T) {
	wrong := []api.Val{{}, {Kind: 8}, {Kind: api.Bool, I: 2}, {Kind: api.Int, S: "x"}, bad(0), bad(99), set(num(2), num(1)), env(num(1)), env(list()), env(list(str("k"))), list(bad(api.EArg)), list(numbers(60)...), str(strings.Repeat("x", 1000)), endlessVal()}
	l := append(samples(), bad(api.EOver))
	l = append(l, wrong...)
	for _, a := range l {
		for _, b := range l {
			vals := [][]api.Val{{a, b}}
			for o := range api.NoEnv + 1 {
				for n := range 4 {
					e := op(o, []api.Expr{ref(0, 0), ref(0, 1), ref(0, 0)}[:n]...)
					if o == api.Const {
						e.V = a
					}
					if got := Eval(e, vals, nil); !val.May(got) {
						t.Fatalf("op %d of %d: %v", o, n, got)
					}
				}
			}
		}
	}
}

// roomy is v with spare room behind each list, that is not to be written to.
func roomy(v api.Val) api.Val {
	if v.L == nil {
		return v
	}
	l := make([]api.Val, len(v.L), len(v.L)+3)
	for i := range v.L {
		l[i] = roomy(v.L[i])
	}
	for i := len(l); i < cap(l); i++ {
		l[:cap(l)][i] = str("spare")
	}
	v.L = l
	return v
}

// plain is all of v, the spare room too.
func plain(v api.Val) api.Val {
	if v.L == nil {
		return v
	}
	l := slices.Clone(v.L[:cap(v.L)])
	for i := range l {
		l[i] = plain(l[i])
	}
	v.L = l
	return v
}

// scribble writes over all memory of v.
func scribble(v api.Val) {
	l := v.L[:cap(v.L)]
	for i := range l {
		scribble(l[i])
		l[i] = str("scribbled")
	}
}

// TestEvalLeavesAlone: what is handed in is neither changed nor kept, and no two lists of an answer are one.
func TestEvalLeavesAlone(t *testing.T) {
	for _, a := range samples() {
		for _, b := range samples() {
			for o, count := range counts() {
				vals := [][]api.Val{{roomy(a)}, {roomy(b)}}
				e := op(o, []api.Expr{ref(0, 0), is(roomy(b)), ref(1, 0), ref(1, 0)}[:count[1]]...)
				if o == api.Const {
					e.V = roomy(a)
				}
				was := []api.Val{plain(vals[0][0]), plain(vals[1][0])}
				got := Eval(e, vals, nil)
				again := Eval(e, vals, nil)
				if !reflect.DeepEqual(got, again) {
					t.Fatalf("op %d: not the same again", o)
				}
				if o == api.Make && len(got.L) == 4 && len(b.L) > 0 {
					got.L[2].L[0] = str("scribbled")
					if val.Compare(got.L[3], b) != 0 || val.Compare(got.L[1], b) != 0 {
						t.Fatal("two lists are one")
					}
				}
				scribble(got)
				if !reflect.DeepEqual(was, []api.Val{plain(vals[0][0]), plain(vals[1][0])}) || o != api.Const && count[1] > 1 && val.Compare(e.Args[1].V, b) != 0 || o == api.Const && val.Compare(e.V, a) != 0 {
					t.Fatalf("op %d changed what it was handed", o)
				}
			}
		}
	}
}

func TestEvalExample(t *testing.T) {
	isOp(t, api.Add, []api.Val{num(2), num(3)}, num(5))
}
