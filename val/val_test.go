package val

import (
	"math"
	"reflect"
	"slices"
	"strings"
	"testing"

	"lemmata/api"
)

func number(i int64) api.Val { return api.Val{Kind: api.Int, I: i} }

func truth(i int64) api.Val { return api.Val{Kind: api.Bool, I: i} }

func text(s string) api.Val { return api.Val{Kind: api.Str, S: s} }

func list(l ...api.Val) api.Val { return api.Val{Kind: api.List, L: l} }

func set(l ...api.Val) api.Val { return api.Val{Kind: api.Set, L: l} }

func env(l ...api.Val) api.Val { return api.Val{Kind: api.Env, L: l} }

func pair(key string, v api.Val) api.Val { return list(text(key), v) }

func bad(e api.Errno) api.Val { return api.Val{Kind: api.Bad, I: int64(e)} }

// numbers makes a rising list of n of Size 1 each.
func numbers(n int) []api.Val {
	var l []api.Val
	for i := range n {
		l = append(l, number(int64(i)))
	}
	return l
}

// nested makes a List in a List, and so on: depth values in all.
func nested(depth int) api.Val {
	v := list()
	for range depth - 1 {
		v = list(v)
	}
	return v
}

// doubled makes a value of Size 2^(depth+1) - 1 out of little memory.
func doubled(depth int) api.Val {
	v := number(1)
	for range depth {
		v = list(v, v)
	}
	return v
}

// holdsItself makes a list that is each of its own parts.
func holdsItself(kind, width int) api.Val {
	l := make([]api.Val, width)
	for i := range l {
		l[i] = api.Val{Kind: kind, L: l}
	}
	return api.Val{Kind: kind, L: l}
}

// inOrder: each kind, and each way in which two of a kind may differ.
func inOrder() []api.Val {
	return []api.Val{
		number(math.MinInt64), number(-2), number(-1), number(0), number(1), number(math.MaxInt64),
		truth(0), truth(1),
		text(""), text("\x00"), text("Z"), text("a"), text("a\x00"), text("aa"), text("ab"), text("b"), text("\xc3\xa9"), text("\xff"),
		list(), list(number(-1)), list(number(0)), list(number(0), number(0)), list(number(0), number(0), number(0)), list(number(0), number(1)), list(number(1)), list(text("")), list(list()), list(list(number(5))), list(set()),
		set(), set(number(0)), set(number(0), number(1)), set(number(0), text("a")), set(number(1)),
		env(), env(pair("a", number(1))), env(pair("a", number(1)), pair("b", number(0))), env(pair("a", number(2))), env(pair("b", number(0))),
		bad(api.EArg), bad(api.EForm), bad(api.EUndo),
	}
}

func TestSize(t *testing.T) {
	for i, x := range []struct {
		v    api.Val
		want int
	}{
		{api.Val{}, 1}, {number(math.MaxInt64), 1}, {truth(1), 1}, {bad(api.EUndo), 1},
		{text(""), 1}, {text(strings.Repeat("x", 15)), 1}, {text(strings.Repeat("x", 16)), 2}, {text(strings.Repeat("x", 31)), 2}, {text(strings.Repeat("x", 32)), 3}, {text(strings.Repeat("x", 16*1000)), 1001},
		{list(), 1}, {set(), 1}, {env(), 1}, {api.Val{Kind: api.List, L: []api.Val{}}, 1},
		{list(number(1)), 2}, {set(number(1), number(2)), 3}, {env(pair("a", number(1))), 4},
		{list(text(strings.Repeat("x", 16)), text("x")), 4}, {list(list(list(), list()), list()), 5},
		{api.Val{S: strings.Repeat("x", 17), L: numbers(3)}, 5},
		{list(numbers(1000)...), 1001}, {nested(1 << 16), 1 << 16}, {doubled(20), 1<<21 - 1},
	} {
		if got := Size(x.v); got != x.want {
			t.Errorf("%d: %d, not %d", i, got, x.want)
		}
	}
}

func TestMayOfEachKind(t *testing.T) {
	for i, v := range inOrder() {
		if !May(v) {
			t.Errorf("%d: it may be", i)
		}
	}
	for kind := -3; kind <= 12; kind++ {
		v := api.Val{Kind: kind}
		if kind == api.Bad {
			v.I = int64(api.EArg)
		}
		if got, want := May(v), api.Int <= kind && kind <= api.Bad; got != want {
			t.Errorf("kind %d: %v", kind, got)
		}
	}
}

func TestMayOfNumbers(t *testing.T) {
	for i := int64(-3); i <= 20; i++ {
		for kind, want := range map[int]bool{
			api.Int: true, api.Bool: i == 0 || i == 1, api.Str: i == 0, api.List: i == 0, api.Set: i == 0, api.Env: i == 0,
			api.Bad: 1 <= i && i <= 13,
		} {
			if got := May(api.Val{Kind: kind, I: i}); got != want {
				t.Errorf("kind %d, %d: %v", kind, i, got)
			}
		}
	}
	for _, i := range []int64{1 << 32, 1<<32 + 1, math.MinInt64, math.MaxInt64} {
		if May(truth(i)) || May(api.Val{Kind: api.Bad, I: i}) {
			t.Errorf("%d: it may not be", i)
		}
	}
}

func TestMayOfWhatTheKindDoesNotName(t *testing.T) {
	for kind := api.Int; kind <= api.Bad; kind++ {
		v := api.Val{Kind: kind}
		if kind == api.Bad {
			v.I = int64(api.EArg)
		}
		v.L = []api.Val{}
		if !May(v) {
			t.Errorf("kind %d: an empty list is none", kind)
		}
		v.L = []api.Val{pair("a", number(1))}
		if got, want := May(v), kind == api.List || kind == api.Set || kind == api.Env; got != want {
			t.Errorf("kind %d with L: %v", kind, got)
		}
		v.L, v.S = nil, "x"
		if got, want := May(v), kind == api.Str; got != want {
			t.Errorf("kind %d with S: %v", kind, got)
		}
	}
}

func TestMayOfParts(t *testing.T) {
	for i, part := range []api.Val{{}, {Kind: 8}, truth(2), bad(api.EArg), bad(0), {Kind: api.Int, S: "x"}, {Kind: api.Str, I: 1}, set(number(2), number(1)), env(number(1))} {
		for k, v := range []api.Val{list(part), list(number(1), part), list(part, number(1)), list(list(part)), set(part), set(list(part)), env(pair("a", part)), env(pair("a", list(part))), env(list(part, number(1)))} {
			if May(v) {
				t.Errorf("%d in %d: it may not be", i, k)
			}
		}
	}
}

func TestMayOfRows(t *testing.T) {
	for i, v := range []api.Val{
		list(number(2), number(1), number(1)), set(number(1)), set(number(9), truth(0), text("a"), list(), set(), env()),
		env(pair("", number(9)), pair("a", number(5)), pair("aa", number(0)), pair("b", env(pair("b", set())))),
	} {
		if !May(v) {
			t.Errorf("%d: it may be", i)
		}
	}
	for i, v := range []api.Val{
		set(number(2), number(1)), set(number(1), number(1)), set(number(1), number(3), number(2)), set(truth(0), number(1)), set(list(number(1)), list(number(1))), list(set(text("b"), text("a"))),
		env(number(1)), env(text("a")), env(list()), env(list(text("a"))), env(list(text("a"), number(1), number(2))), env(set(number(1), text("a"))), env(set(text("a"), text("b"))), env(env(pair("a", number(1)))),
		env(list(number(1), text("a"))), env(list(list(), number(1))), env(pair("b", number(1)), pair("a", number(2))), env(pair("a", number(1)), pair("a", number(2))), env(pair("a", number(1)), pair("a", number(1))), env(pair("a", number(1)), pair("c", number(1)), pair("b", number(1))), env(pair("a", number(1)), number(1)),
	} {
		if May(v) {
			t.Errorf("%d: it may not be", i)
		}
	}
}

func TestMayOfGreatValues(t *testing.T) {
	for i, x := range []struct{ most, more api.Val }{
		{text(strings.Repeat("x", 16*60-1)), text(strings.Repeat("x", 16*60))},
		{list(numbers(59)...), list(numbers(60)...)},
		{set(numbers(59)...), set(numbers(60)...)},
		{list(list(numbers(58)...)), list(list(numbers(59)...))},
		{env(pair("a", list(numbers(56)...))), env(pair("a", list(numbers(57)...)))},
		{list(text(strings.Repeat("x", 16*58))), list(text(strings.Repeat("x", 16*59)))},
		{nested(60), nested(61)},
	} {
		if !May(x.most) || Size(x.most) != api.MaxSize {
			t.Errorf("%d: it may be: %d", i, Size(x.most))
		}
		if May(x.more) || Size(x.more) != api.MaxSize+1 {
			t.Errorf("%d: it may not be: %d", i, Size(x.more))
		}
	}
}

func TestCompare(t *testing.T) {
	if Compare(number(3), number(5)) != -1 {
		t.Error("3 and 5")
	}
	all := inOrder()
	for i, a := range all {
		for k, b := range all {
			want := 0
			if i < k {
				want = -1
			} else if i > k {
				want = 1
			}
			if got := Compare(a, b); got != want {
				t.Errorf("%d, %d: %d, not %d", i, k, got, want)
			}
		}
	}
}

func TestCompareAtEachDepth(t *testing.T) {
	low, high := number(1), number(2)
	for depth := range 50 {
		if Compare(low, high) != -1 || Compare(high, low) != 1 || Compare(low, low) != 0 {
			t.Fatalf("%d", depth)
		}
		// What comes first tells, whatever comes behind it.
		low, high = list(text("same"), low, number(9)), list(text("same"), high)
		if !May(low) || !May(high) {
			break
		}
	}
}

func TestCompareNilAndEmpty(t *testing.T) {
	a, b := list(), api.Val{Kind: api.List, L: []api.Val{}}
	if Compare(a, b) != 0 || Compare(b, a) != 0 || Compare(list(a), list(b)) != 0 {
		t.Error("nil and an empty list are one")
	}
}

// TestInsOfAllRows puts each value into each row that a few others make.
func TestInsOfAllRows(t *testing.T) {
	all := []api.Val{number(4), text("a"), list(number(1), set(number(2))), env(pair("k", list())), bad(api.ENone)}
	for chosen := range 1 << len(all) {
		var l []api.Val
		for i, v := range all {
			if chosen>>i&1 == 1 {
				l = append(l, v)
			}
		}
		for i, v := range all {
			var want []api.Val
			for k, w := range all {
				if (chosen|1<<i)>>k&1 == 1 {
					want = append(want, w)
				}
			}
			if got := Ins(l, v); !reflect.DeepEqual(got, want) {
				t.Errorf("%b, %d: %v", chosen, i, got)
			}
		}
	}
}

func TestInsOfLongRows(t *testing.T) {
	var l []api.Val
	for i := range int64(200) {
		l = Ins(l, number(i*77%200))
	}
	if !reflect.DeepEqual(l, numbers(200)) {
		t.Errorf("%v", l)
	}
	if got := Ins([]api.Val{}, number(1)); !reflect.DeepEqual(got, numbers(2)[1:]) {
		t.Errorf("%v", got)
	}
	great := list(numbers(100)...)
	if got := Ins([]api.Val{number(1)}, great); !reflect.DeepEqual(got, []api.Val{number(1), great}) {
		t.Errorf("%v", got)
	}
}

func TestInsLeavesWhatItWasHanded(t *testing.T) {
	make3 := func() []api.Val {
		return []api.Val{number(1), list(list(number(2)), text("x")), env(pair("k", number(3)))}
	}
	for _, v := range []api.Val{number(0), number(5), list(list(number(2)), text("x")), list(list(number(3))), bad(api.EArg)} {
		room := append(make3(), number(77), number(78))
		was := Ins(nil, v)[0]
		l := room[:3]
		got := Ins(l, v)
		scribble(got)
		if !reflect.DeepEqual(room, append(make3(), number(77), number(78))) || !reflect.DeepEqual(v, was) {
			t.Errorf("%v: what was handed in was changed", was)
		}
		if again := Ins(l, v); !reflect.DeepEqual(again, Ins(make3(), was)) {
			t.Errorf("%v: the same call tells another: %v", was, again)
		}
	}
}

// scribble writes over all memory that l reaches, spare room too.
func scribble(l []api.Val) {
	for i := range l {
		scribble(l[i].L)
	}
	l = l[:cap(l)]
	for i := range l {
		l[i] = text("scribble")
	}
}

func TestInsSharesNothingWithinItsAnswer(t *testing.T) {
	part := []api.Val{number(1)}
	got := Ins([]api.Val{list(api.Val{Kind: api.List, L: part}, api.Val{Kind: api.List, L: part})}, api.Val{Kind: api.Set, L: part})
	got[0].L[0].L[0] = number(2)
	if got[0].L[1].L[0].I != 1 || got[1].L[0].I != 1 || part[0].I != 1 {
		t.Errorf("two lists of one answer share memory: %v", got)
	}
}

func TestFind(t *testing.T) {
	keys := []string{"", "\x00", "a", "aa", "ab", "b", "\xff"}
	for chosen := range 1 << len(keys) {
		var l []api.Val
		var there []string
		for i, key := range keys {
			if chosen>>i&1 == 1 {
				l = append(l, pair(key, number(int64(-i))))
				there = append(there, key)
			}
		}
		for _, key := range append(keys, "\x01", "abc", "c", "\xff\xff") {
			wantAt, wantOk := slices.BinarySearch(there, key)
			if at, ok := Find(l, key); at != wantAt || ok != wantOk {
				t.Errorf("%q, %q: %d %v", there, key, at, ok)
			}
		}
	}
	if at, ok := Find([]api.Val{}, "a"); at != 0 || ok {
		t.Error("an empty list")
	}
}

func TestFindOfNoPairs(t *testing.T) {
	for i, l := range [][]api.Val{{{}}, {number(1), list(), text("a")}, {list(number(1))}, {pair("b", number(1)), pair("a", number(1))}, {env(), {}, set(list())}, holdsItself(api.List, 3).L} {
		if at, _ := Find(l, "a"); at < 0 || at > len(l) {
			t.Errorf("%d: %d", i, at)
		}
	}
}

func TestEveryCallEnds(t *testing.T) {
	for i, v := range []api.Val{holdsItself(api.List, 1), holdsItself(api.List, 2), holdsItself(api.Set, 3), holdsItself(api.Env, 2), holdsItself(0, 5), nested(1 << 18), doubled(64)} {
		if May(v) || May(list(v)) || May(set(number(1), v)) || May(env(pair("a", v))) {
			t.Errorf("%d: it may not be", i)
		}
		if Compare(v, bad(api.EArg)) != -1 || Compare(bad(api.EArg), v) != 1 {
			t.Errorf("%d: one that ends is compared", i)
		}
		Compare(v, v)
		Ins([]api.Val{v}, number(1))
		Ins([]api.Val{number(1)}, v)
		Find([]api.Val{v, v}, "a")
	}
	for _, v := range []api.Val{holdsItself(api.List, 1), holdsItself(api.List, 2), nested(1 << 18)} {
		if Size(v) <= api.MaxSize {
			t.Error("it is great")
		}
	}
}

func TestWrongRows(t *testing.T) {
	falling := []api.Val{number(3), {}, number(1), {Kind: 99}, number(2)}
	was := slices.Clone(falling)
	for _, v := range append(falling, api.Val{}, api.Val{Kind: -1}) {
		if got := Ins(falling, v); len(got) < len(falling) || len(got) > len(falling)+1 {
			t.Errorf("%v", got)
		}
	}
	if !reflect.DeepEqual(falling, was) {
		t.Error("what was handed in was changed")
	}
}
