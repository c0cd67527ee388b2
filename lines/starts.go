package lines

import (
	"iter"

	"lemmata/api"
)

// breaks tells the starts that s makes where it stands at that place.
func breaks(s string, at int) iter.Seq[int] {
	return func(yield func(int) bool) {
		for i := range len(s) {
			if s[i] == '\n' && !yield(at+i+1) {
				return
			}
		}
	}
}

// ahead tells the starts that stay. One just at the splice does: the byte that makes it is ahead.
func ahead(starts []int, c api.Splice) iter.Seq[int] {
	return func(yield func(int) bool) {
		for _, start := range starts {
			if start <= c.At && !yield(start) {
				return
			}
		}
	}
}

// behind tells the starts that move, as they are then. One just at the end of what goes does not: the byte that makes it goes.
func behind(starts []int, c api.Splice) iter.Seq[int] {
	return func(yield func(int) bool) {
		for _, start := range starts {
			if start > c.At+c.N && !yield(start-c.N+len(c.Put)) {
				return
			}
		}
	}
}
