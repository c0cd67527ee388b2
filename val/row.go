package val

import "slices"

// row is a list that rises by compare, so that each item stands in it once and has one place.
type row[T any] struct {
	items   []T
	compare func(a, b T) int
}

func (r row[T]) rises() bool {
	for i := 1; i < len(r.items); i++ {
		if r.compare(r.items[i-1], r.items[i]) >= 0 {
			return false
		}
	}
	return true
}

// place tells where item stands, or, beside a no, where it would stand.
func (r row[T]) place(item T) (int, bool) {
	low, high := 0, len(r.items)
	for low < high {
		middle := low + (high-low)/2
		if r.compare(r.items[middle], item) < 0 {
			low = middle + 1
		} else {
			high = middle
		}
	}
	return low, low < len(r.items) && r.compare(r.items[low], item) == 0
}

// with answers a list of its own, so that the spare room behind items stays as it was.
func (r row[T]) with(item T) []T {
	at, there := r.place(item)
	if there {
		return slices.Clone(r.items)
	}
	return slices.Concat(r.items[:at], []T{item}, r.items[at:])
}
