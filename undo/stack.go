package undo

// stack is a list to whose end things come, and from whose end they go. What its methods tell is new memory.
type stack[T any] []T

func (s stack[T]) copied() stack[T] {
	return append(stack[T](nil), s...)
}

// with tells s with x as its last.
func (s stack[T]) with(x T) stack[T] {
	return append(s.copied(), x)
}

// parted tells s without its last, and that: a no, if it has none.
func (s stack[T]) parted() (rest stack[T], last T, ok bool) {
	if len(s) == 0 {
		return nil, last, false
	}
	end := len(s) - 1
	return s[:end].copied(), s[end], true
}

// held tells s without its first, if it has more than so many.
func (s stack[T]) held(most int) stack[T] {
	if len(s) > most {
		s = s[1:]
	}
	return s.copied()
}

// exchanged tells both stacks when the last of from goes and now is the last of to, and what went: both as they are and a no, if from has none.
func exchanged[T any](from, to stack[T], now T) (_, _ stack[T], last T, ok bool) {
	rest, last, ok := from.parted()
	if !ok {
		return rest, to.copied(), last, false
	}
	return rest, to.with(now), last, true
}
