package val

import (
	"cmp"
	"slices"
	"strings"
	"testing"
)

func TestRowRises(t *testing.T) {
	for _, x := range []struct {
		items []int
		want  bool
	}{
		{nil, true}, {[]int{}, true}, {[]int{7}, true}, {[]int{1, 2, 9}, true},
		{[]int{1, 1}, false}, {[]int{2, 1}, false}, {[]int{1, 2, 2}, false}, {[]int{1, 3, 2, 4}, false},
	} {
		if got := (row[int]{x.items, cmp.Compare[int]}).rises(); got != x.want {
			t.Errorf("%v: %v", x.items, got)
		}
	}
}

func TestRowPlace(t *testing.T) {
	for length := range 9 {
		r := row[int]{nil, cmp.Compare[int]}
		for i := range length {
			r.items = append(r.items, 2*i+1)
		}
		for item := -1; item <= 2*length+1; item++ {
			wantAt, wantOk := slices.BinarySearch(r.items, item)
			if at, ok := r.place(item); at != wantAt || ok != wantOk {
				t.Errorf("%v, %d: %d %v", r.items, item, at, ok)
			}
		}
	}
}

func TestRowOfTexts(t *testing.T) {
	r := row[string]{[]string{"b", "d"}, strings.Compare}
	for item, want := range map[string][]string{
		"a": {"a", "b", "d"}, "b": {"b", "d"}, "c": {"b", "c", "d"}, "d": {"b", "d"}, "e": {"b", "d", "e"},
	} {
		got := r.with(item)
		if !slices.Equal(got, want) {
			t.Errorf("%q: %q", item, got)
		}
		got[0] = "z"
		if !slices.Equal(r.items, []string{"b", "d"}) {
			t.Fatalf("%q: the row was changed: %q", item, r.items)
		}
	}
}
