package dfa

// ranks numbers keys from 0 on, in the order in which they come up. The map is only asked: what order there is, is that of keys.
type ranks[K comparable] struct {
	byKey map[K]int
	keys  []K
}

func newRanks[K comparable]() ranks[K] {
	return ranks[K]{byKey: map[K]int{}}
}

func (r *ranks[K]) rank(k K) int {
	rank, known := r.byKey[k]
	if !known {
		rank = len(r.keys)
		r.byKey[k] = rank
		r.keys = append(r.keys, k)
	}
	return rank
}
