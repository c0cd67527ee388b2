package relex

import (
	"iter"
	"slices"
	"testing"

	"lemmata/api"
)

func tokensAt(places ...int) (l []api.Token) {
	for _, at := range places {
		l = append(l, api.Token{At: at, Len: 1})
	}
	return l
}

// placesOf tells the first most pairs by their places.
func placesOf(pairs iter.Seq2[api.Token, api.Token], most int) (out [][2]int) {
	if most == 0 {
		return nil
	}
	for old, now := range pairs {
		out = append(out, [2]int{old.At, now.At})
		if len(out) == most {
			break
		}
	}
	return out
}

func TestPairs(t *testing.T) {
	for _, x := range []struct {
		l, m       []int
		front, end [][2]int
	}{
		{nil, nil, nil, nil}, {[]int{1}, nil, nil, nil}, {nil, []int{1, 2}, nil, nil},
		{[]int{1}, []int{5}, [][2]int{{1, 5}}, [][2]int{{1, 5}}},
		{[]int{1, 2, 3}, []int{5, 6, 7}, [][2]int{{1, 5}, {2, 6}, {3, 7}}, [][2]int{{3, 7}, {2, 6}, {1, 5}}},
		{[]int{1, 2, 3}, []int{5, 6}, [][2]int{{1, 5}, {2, 6}}, [][2]int{{3, 6}, {2, 5}}},
		{[]int{1}, []int{5, 6, 7}, [][2]int{{1, 5}}, [][2]int{{1, 7}}},
	} {
		l, m := tokensAt(x.l...), tokensAt(x.m...)
		// one that stops early is told no more
		for most := range len(x.front) + 1 {
			if got := placesOf(fromFront(l, m), most); !slices.Equal(got, x.front[:most]) {
				t.Errorf("front of %v, %v: %v", x.l, x.m, got)
			}
			if got := placesOf(fromEnd(l, m), most); !slices.Equal(got, x.end[:most]) {
				t.Errorf("end of %v, %v: %v", x.l, x.m, got)
			}
		}
		if got := placesOf(fromFront(l, m), -1); !slices.Equal(got, x.front) {
			t.Errorf("front of %v, %v: %v", x.l, x.m, got)
		}
		if got := placesOf(fromEnd(l, m), -1); !slices.Equal(got, x.end) {
			t.Errorf("end of %v, %v: %v", x.l, x.m, got)
		}
	}
}
