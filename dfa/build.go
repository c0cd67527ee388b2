package dfa

import "lemmata/api"

const (
	nowhere = -1 // where a row leads with a byte that no state takes
	noEnd   = 0  // the End of what no kind of token ends at
)

// place is where a state stands among the others.
type place int

// builder makes rows of sets of states. The set that found ranks k is that of row k.
type builder struct {
	states []api.State
	turns  [256]bool
	found  ranks[set[place]]
}

func begin(l []api.State) *builder {
	b := &builder{states: l, turns: turnsOf(l), found: newRanks[set[place]]()}
	first := newDraft[place](len(l))
	first.add(0)
	b.rank(first)
	return b
}

// turnsOf tells at which bytes a state begins to take them, or does so no more. With a byte that is no turn each set leads where it leads with the byte ahead, with byte 0 nowhere.
func turnsOf(l []api.State) (turns [256]bool) {
	for _, state := range l {
		turns[state.Lo] = true
		if state.Hi < 255 {
			turns[state.Hi+1] = true
		}
	}
	return turns
}

func (b *builder) row(from set[place]) api.Row {
	members := from.members()
	row := api.Row{End: b.end(members)}
	next := nowhere
	for c := range row.Next {
		if b.turns[c] {
			next = b.rank(b.step(members, byte(c)))
		}
		row.Next[c] = next
	}
	return row
}

func (b *builder) step(members []place, c byte) *draft[place] {
	then := newDraft[place](len(b.states))
	for _, at := range members {
		state := b.states[at]
		if state.Lo <= c && c <= state.Hi {
			then.add(place(state.Next))
		}
	}
	return then
}

// rank spreads first: only sets with all that can be reached by nothing are the same set when they lead the same ways.
func (b *builder) rank(d *draft[place]) int {
	if len(d.members) == 0 {
		return nowhere
	}
	b.spread(d)
	return b.found.rank(d.set())
}

// spread goes on with nothing as far as it leads: those that come in on the way are met further on.
func (b *builder) spread(d *draft[place]) {
	for i := 0; i < len(d.members); i++ {
		for _, next := range b.states[d.members[i]].Free {
			d.add(place(next))
		}
	}
}

func (b *builder) end(members []place) int {
	least := noEnd
	for _, at := range members {
		end := b.states[at].End
		if end != noEnd && (least == noEnd || end < least) {
			least = end
		}
	}
	return least
}
