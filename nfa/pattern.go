package nfa

import (
	"slices"

	"lemmata/api"
)

// Each item but a Join is a byte of the text at least, and there are fewer Joins than Classes.
const mostItems = 2*api.MaxRex - 1

// node is an item of a pattern, with what it takes.
type node struct {
	item  api.Item
	parts []node
}

// readPattern says no of what rex.Parse tells of no text at all.
func readPattern(items []api.Item) (node, bool) {
	n, ok := treeOf(items)
	if !ok || !says(n.text(), items) {
		return node{}, false
	}
	return n, true
}

func treeOf(items []api.Item) (node, bool) {
	if len(items) > mostItems {
		return node{}, false
	}
	var waiting []node // those that nothing has taken yet
	for _, item := range items {
		cut := len(waiting) - taken(item.Op)
		if cut < 0 || len(item.L) > api.MaxRex {
			return node{}, false
		}
		parts := slices.Clone(waiting[cut:])
		waiting = append(waiting[:cut], node{item, parts})
	}
	if len(waiting) != 1 {
		return node{}, false
	}
	return waiting[0], true
}

// taken is how many parts ahead an item takes. (What is no item of a pattern is found out by its text: there is none.)
func taken(op int) int {
	switch op {
	case api.Join, api.Alt:
		return 2
	case api.Star, api.Plus, api.Maybe:
		return 1
	}
	return 0
}
