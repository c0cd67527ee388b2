package nfa

// set is numbers from 0 up to a bound, each once, in the order in which they came. It is made empty in one step, whatever it held.
type set[T ~int] struct {
	members []T
	places  []int // of each number, where among the members it would stand; what is no member may have any place here
}

func newSet[T ~int](bound int) *set[T] {
	return &set[T]{places: make([]int, bound)}
}

func (s *set[T]) has(x T) bool {
	at := s.places[x]
	return at < len(s.members) && s.members[at] == x
}

// add leaves out what is not within the bound.
func (s *set[T]) add(x T) {
	if x < 0 || int(x) >= len(s.places) || s.has(x) {
		return
	}
	s.places[x] = len(s.members)
	s.members = append(s.members, x)
}

func (s *set[T]) empty() {
	s.members = s.members[:0]
}
