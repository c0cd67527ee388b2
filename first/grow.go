package first

// union is a kind of set, of which two make one that has what either has.
type union[S any] interface {
	comparable
	with(more S) S
}

// growing is sets, one a nonterminal, out of which nothing ever goes.
type growing[S union[S]] struct {
	sets  []S
	grown bool
}

func (l *growing[S]) add(nt int, more S) {
	if both := l.sets[nt].with(more); both != l.sets[nt] {
		l.sets[nt], l.grown = both, true
	}
}

// least is the n least sets to which round adds nothing. What round adds must hang on what the sets have, not on what they have not: then the order in which it adds does not matter.
func least[S union[S]](n int, round func(l *growing[S])) []S {
	l := growing[S]{sets: make([]S, n), grown: true}
	for l.grown {
		l.grown = false
		round(&l)
	}
	return l.sets
}
