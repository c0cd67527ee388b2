package rex

import "lemmata/api"

// group is a pattern, the whole one or one in round brackets, as far as it is read.
type group struct {
	parted bool // a piece ahead of this one waits for its Alt
	atoms  int  // of this piece, those that are not joined: 0 to 2
}

// reader is what was read of a text: the items so far, and what is not yet at its end.
type reader struct {
	items []api.Item
	outer []group // those around now, the outermost first
	now   group
	class class
}

// take goes on by l, and says no if it does not fit.
func (r *reader) take(l letter) bool {
	if r.class.open {
		return r.takeInClass(l)
	}
	if l.standsForItself(marks) {
		r.addClass([]api.Range{{Lo: l.c, Hi: l.c}})
		return true
	}
	return r.takeMark(l.c)
}

// takeMark says no of a byte that a backslash may not stand ahead of: it is no mark.
func (r *reader) takeMark(mark byte) bool {
	switch mark {
	case '(':
		return r.openGroup()
	case ')':
		return r.closeGroup()
	case '[':
		return r.openClass()
	case '.':
		r.addClass([]api.Range{{Lo: lowest, Hi: highest}})
		return true
	case '|':
		return r.endPiece()
	case '*':
		return r.repeat(api.Star)
	case '+':
		return r.repeat(api.Plus)
	case '?':
		return r.repeat(api.Maybe)
	}
	return false
}

func (r *reader) takeInClass(l letter) bool {
	if l.standsForItself(classMarks) {
		return r.class.add(l.c)
	}
	// As outside, what a backslash may not stand ahead of is no mark.
	switch l.c {
	case '-':
		return r.class.dash()
	case ']':
		return r.closeClass()
	}
	return false
}

// end says no if something is still open, or the last piece is empty.
func (r *reader) end() bool {
	return !r.class.open && len(r.outer) == 0 && r.endPiece()
}

func (r *reader) openGroup() bool {
	if !r.mayOpen() {
		return false
	}
	r.join()
	r.outer = append(r.outer, r.now)
	r.now = group{}
	return true
}

func (r *reader) closeGroup() bool {
	last := len(r.outer) - 1
	if last < 0 || !r.endPiece() {
		return false
	}
	r.now, r.outer = r.outer[last], r.outer[:last]
	r.now.atoms++
	return true
}

func (r *reader) openClass() bool {
	if !r.mayOpen() {
		return false
	}
	r.class = class{open: true}
	return true
}

func (r *reader) closeClass() bool {
	if !r.class.whole() {
		return false
	}
	r.addClass(r.class.ranges)
	r.class = class{}
	return true
}

// mayOpen tells whether there may be a bracket more within those that are open.
func (r *reader) mayOpen() bool {
	return len(r.outer) < api.MaxDeep
}

// addClass keeps ranges.
func (r *reader) addClass(ranges []api.Range) {
	r.join()
	r.items = append(r.items, api.Item{Op: api.Class, L: ranges})
	r.now.atoms++
}

// join waits until another atom begins, or the piece ends: only then is the last atom known to have no more signs behind it.
func (r *reader) join() {
	if r.now.atoms == 2 {
		r.put(api.Join)
		r.now.atoms = 1
	}
}

// repeat is of the last atom, and of the signs that it has already.
func (r *reader) repeat(op int) bool {
	if r.now.atoms == 0 {
		return false
	}
	r.put(op)
	return true
}

// endPiece lays the piece to those ahead of it.
func (r *reader) endPiece() bool {
	if r.now.atoms == 0 {
		return false
	}
	r.join()
	if r.now.parted {
		r.put(api.Alt)
	}
	r.now = group{parted: true}
	return true
}

func (r *reader) put(op int) {
	r.items = append(r.items, api.Item{Op: op})
}
