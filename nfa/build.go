package nfa

import "lemmata/api"

// The place of no state: where a state goes that takes no byte.
const nowhere = -1

// builder lays out states from behind: each piece of a pattern is told which state comes next, so that pieces need no ends of their own.
type builder struct {
	states []api.State
}

func (b *builder) add(s api.State) int {
	b.states = append(b.states, s)
	return len(b.states) - 1
}

func (b *builder) fork(free ...int) int {
	return b.add(api.State{Next: nowhere, Free: free})
}

// build tells the state from which just the texts of n lead to next. What it adds goes to what it adds, and to next, alone.
func (b *builder) build(n node, next int) int {
	switch n.item.Op {
	case api.Join:
		return b.build(n.parts[0], b.build(n.parts[1], next))
	case api.Alt:
		return b.fork(b.build(n.parts[0], next), b.build(n.parts[1], next))
	case api.Star:
		_, again := b.loop(n.parts[0], next)
		return again
	case api.Plus:
		first, _ := b.loop(n.parts[0], next)
		return first
	case api.Maybe:
		return b.fork(b.build(n.parts[0], next), next)
	}
	return b.class(n.item.L, next)
}

// loop tells where n begins, and the state behind n that leads back there, or on to next.
func (b *builder) loop(n node, next int) (first, again int) {
	again = b.fork()
	first = b.build(n, again)
	b.states[again].Free = []int{first, next}
	return first, again
}

func (b *builder) class(ranges []api.Range, next int) int {
	var ways []int
	for _, r := range ranges {
		ways = append(ways, b.add(api.State{Lo: r.Lo, Hi: r.Hi, Next: next}))
	}
	if len(ways) == 1 {
		return ways[0]
	}
	return b.fork(ways...)
}
