package gram

import (
	"slices"
	"testing"
)

func TestListNumbers(t *testing.T) {
	for n := range 6 {
		l := make(list[int], n)
		for least := -1; least <= 6; least++ {
			for most := -1; most <= 6; most++ {
				if got := l.numbers(least, most); got != (n >= least && n <= most) {
					t.Errorf("%d of %d to %d: %v", n, least, most, got)
				}
			}
		}
	}
}

func TestListHas(t *testing.T) {
	l := list[string]{"a", "b"}
	for place, want := range map[int]bool{-2: false, -1: false, 0: true, 1: true, 2: false, 3: false} {
		if l.has(place) != want || list[string](nil).has(place) {
			t.Errorf("%d: %v", place, l.has(place))
		}
	}
	if l[:1].has(1) {
		t.Error("spare room is a place")
	}
}

func TestListAll(t *testing.T) {
	even := func(x int) bool { return x%2 == 0 }
	for _, x := range []struct {
		l    list[int]
		want bool
	}{
		{nil, true}, {list[int]{}, true}, {list[int]{2}, true}, {list[int]{1}, false}, {list[int]{2, 4, 6}, true},
		{list[int]{1, 2, 4}, false}, {list[int]{2, 1, 4}, false}, {list[int]{2, 4, 1}, false},
	} {
		if x.l.all(even) != x.want {
			t.Errorf("%v: %v", x.l, !x.want)
		}
	}
}

func TestListPlaces(t *testing.T) {
	for _, x := range []struct {
		s      string
		wanted byte
		want   []int
	}{
		{"", 'a', nil}, {"b", 'a', nil}, {"a", 'a', []int{0}}, {"abcab", 'a', []int{0, 3}}, {"abcab", 'b', []int{1, 4}}, {"aaa", 'a', []int{0, 1, 2}},
	} {
		if got := list[byte](x.s).places(func(c byte) bool { return c == x.wanted }); !slices.Equal(got, x.want) {
			t.Errorf("%q of %q: %v", x.wanted, x.s, got)
		}
	}
}

func TestUnlike(t *testing.T) {
	for s, want := range map[string]bool{"": true, "a": true, "ab": true, "abc": true, "aa": false, "aba": false, "abb": false, "aab": false, "abca": false} {
		if unlike(list[byte](s)) != want {
			t.Errorf("%q: %v", s, !want)
		}
	}
	if !unlike(list[string]{"a", "aa", ""}) || unlike(list[string]{"", "a", ""}) {
		t.Error("of texts")
	}
}
