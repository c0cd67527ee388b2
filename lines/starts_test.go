package lines

import (
	"iter"
	"slices"
	"testing"

	"lemmata/api"
)

// first stops behind so many.
func first(n int, l iter.Seq[int]) (out []int) {
	if n == 0 {
		return nil
	}
	for at := range l {
		out = append(out, at)
		if len(out) == n {
			break
		}
	}
	return out
}

// One that stops early is told no more.
func TestStartsOneByOne(t *testing.T) {
	starts := []int{0, 2, 5, 6, 9}
	c := api.Splice{At: 2, N: 3, Put: "x"}
	for _, x := range []struct {
		l    iter.Seq[int]
		want []int
	}{
		{breaks("a\nbc\n\nd", 0), []int{2, 5, 6}}, {breaks("a\nbc\n\nd", 10), []int{12, 15, 16}}, {breaks("", 3), nil}, {breaks("ab", 3), nil},
		{ahead(starts, c), []int{0, 2}}, {behind(starts, c), []int{4, 7}}, {ahead(nil, c), nil}, {behind(nil, c), nil},
		{ahead(starts, api.Splice{At: 9}), starts}, {behind(starts, api.Splice{At: 9}), nil}, {behind(starts, api.Splice{Put: "xyz"}), []int{5, 8, 9, 12}},
	} {
		for n := range len(x.want) + 1 {
			if l := first(n, x.l); !slices.Equal(l, x.want[:n]) {
				t.Errorf("%d: %v, not %v", n, l, x.want[:n])
			}
		}
		if l := slices.Collect(x.l); !slices.Equal(l, x.want) {
			t.Errorf("%v, not %v", l, x.want)
		}
	}
}
