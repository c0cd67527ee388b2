package piece

import (
	"iter"
	"slices"
	"strings"

	"lemmata/api"
)

// source is what the piece is of.
func source(t Table, p api.Piece) string {
	if p.Add {
		return t.New
	}
	return t.Old
}

// there tells whether the piece has bytes, all of them there.
func there(t Table, p api.Piece) bool {
	return p.N >= 1 && within(p.At, p.N, len(source(t, p)))
}

// within tells whether n bytes at that place are there, of so many.
func within(at, n, of int) bool {
	// at and n together may be beyond an int. What is left from at on is not: it is below 0 where at is beyond all.
	return at >= 0 && n >= 0 && n <= of-at
}

// pieces tells the pieces one by one. One that may not be is passed over: it holds nothing of the text.
func pieces(t Table) iter.Seq[api.Piece] {
	return func(yield func(api.Piece) bool) {
		for _, p := range t.L {
			if there(t, p) && !yield(p) {
				return
			}
		}
	}
}

// part tells the pieces of the text from byte from up to byte to, those cut that reach beyond.
func part(t Table, from, to int) iter.Seq[api.Piece] {
	return func(yield func(api.Piece) bool) {
		at := 0
		for p := range pieces(t) {
			lo, hi := max(from-at, 0), min(to-at, p.N)
			at += p.N
			if lo < hi && !yield(api.Piece{Add: p.Add, At: p.At + lo, N: hi - lo}) {
				return
			}
		}
	}
}

// spliced takes a splice that is within the text; what it puts is to stand behind all that was added.
func spliced(t Table, c api.Splice) []api.Piece {
	l := slices.Collect(part(t, 0, c.At))
	l = withPiece(l, api.Piece{Add: true, At: len(t.New), N: len(c.Put)})
	return slices.AppendSeq(l, part(t, c.At+c.N, Len(t)))
}

// withPiece leaves out a piece of no bytes.
func withPiece(l []api.Piece, p api.Piece) []api.Piece {
	if p.N == 0 {
		return l
	}
	return append(l, p)
}

func joined(s, t string) string {
	// A sum of strings of which one is empty is the other one itself, no new memory.
	var l strings.Builder
	l.WriteString(s)
	l.WriteString(t)
	return l.String()
}
