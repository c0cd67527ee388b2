package nfa

import "lemmata/api"

// The End of a state at which no kind of token ends.
const noEnd = 0

// place is where a state stands among the others.
type place int

// walk goes all ways at once: now holds the states that the bytes so far lead to. Sets that are bound by the number of states leave out the places that there are not.
type walk struct {
	states    []api.State
	now, then *set[place]
}

func begin(l []api.State) *walk {
	w := &walk{states: l, now: newSet[place](len(l)), then: newSet[place](len(l))}
	w.now.add(0)
	w.spread()
	return w
}

func (w *walk) step(c byte) {
	w.then.empty()
	for _, at := range w.now.members {
		state := w.states[at]
		if state.Lo <= c && c <= state.Hi {
			w.then.add(place(state.Next))
		}
	}
	w.now, w.then = w.then, w.now
	w.spread()
}

// spread goes on with nothing as far as it leads: those that come in on the way are met further on.
func (w *walk) spread() {
	for i := 0; i < len(w.now.members); i++ {
		for _, next := range w.states[w.now.members[i]].Free {
			w.now.add(place(next))
		}
	}
}

func (w *walk) stuck() bool {
	return len(w.now.members) == 0
}

func (w *walk) end() int {
	least := noEnd
	for _, at := range w.now.members {
		end := w.states[at].End
		if end != noEnd && (least == noEnd || end < least) {
			least = end
		}
	}
	return least
}
