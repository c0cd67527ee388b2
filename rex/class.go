package rex

import "lemmata/api"

// What may stand behind the last range of a class.
const (
	behindRange = iota // another range, not a dash
	behindByte         // a dash too: the byte is then the first of two
	behindDash         // the second byte alone
)

// class is what stands in square brackets, as far as it is read.
type class struct {
	open   bool
	ranges []api.Range
	place  int
}

func (k *class) add(c byte) bool {
	if k.place != behindDash {
		k.ranges = append(k.ranges, api.Range{Lo: c, Hi: c})
		k.place = behindByte
		return true
	}
	last := len(k.ranges) - 1
	if k.ranges[last].Lo > c {
		return false
	}
	k.ranges[last].Hi = c
	k.place = behindRange
	return true
}

func (k *class) dash() bool {
	if k.place != behindByte {
		return false
	}
	k.place = behindDash
	return true
}

// whole tells whether the class may end here.
func (k *class) whole() bool {
	return len(k.ranges) > 0 && k.place != behindDash
}
