package dfa

// How many numbers of a set are bits of one byte.
const perByte = 8

// set is numbers from 0 up to a bound, each as a bit: of one bound, those that hold the same numbers are the same key of a map.
type set[T ~int] struct {
	bits string
}

// members tells them rising.
func (s set[T]) members() (members []T) {
	for i := range len(s.bits) {
		for bit := range perByte {
			if s.bits[i]>>bit&1 == 1 {
				members = append(members, T(i*perByte+bit))
			}
		}
	}
	return members
}

// draft is a set that still grows; its members are in the order in which they came.
type draft[T ~int] struct {
	bound   int
	bits    []byte
	members []T
}

func newDraft[T ~int](bound int) *draft[T] {
	return &draft[T]{bound: bound, bits: make([]byte, bound/perByte+1)}
}

func (d *draft[T]) has(x T) bool {
	return d.bits[x/perByte]>>(x%perByte)&1 == 1
}

// add leaves out what is not within the bound.
func (d *draft[T]) add(x T) {
	if x < 0 || int(x) >= d.bound || d.has(x) {
		return
	}
	d.bits[x/perByte] |= 1 << (x % perByte)
	d.members = append(d.members, x)
}

func (d *draft[T]) set() set[T] {
	return set[T]{string(d.bits)}
}
