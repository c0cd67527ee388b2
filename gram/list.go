package gram

import "slices"

// list is things of one kind, each of which has its place.
type list[T any] []T

// numbers tells whether l has from least to most of them.
func (l list[T]) numbers(least, most int) bool {
	return least <= len(l) && len(l) <= most
}

func (l list[T]) has(place int) bool {
	return 0 <= place && place < len(l)
}

func (l list[T]) all(good func(x T) bool) bool {
	for _, x := range l {
		if !good(x) {
			return false
		}
	}
	return true
}

// places tells, rising, where those stand that are wanted.
func (l list[T]) places(wanted func(x T) bool) []int {
	var found []int
	for place, x := range l {
		if wanted(x) {
			found = append(found, place)
		}
	}
	return found
}

// unlike tells whether each thing stands in l once.
func unlike[T comparable](l list[T]) bool {
	for place, x := range l {
		if slices.Contains(l[:place], x) {
			return false
		}
	}
	return true
}
