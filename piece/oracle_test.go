package piece

import (
	"iter"
	"math/rand"
	"slices"
	"testing"

	"lemmata/api"
)

// place is where a byte of the text stands, and whether it is the first of a piece.
type place struct {
	add, first bool
	at         int
}

// placesOf goes through a table that may be, byte by byte.
func placesOf(t Table) (l []place) {
	for _, p := range t.L {
		for i := range p.N {
			l = append(l, place{add: p.Add, first: i == 0, at: p.At + i})
		}
	}
	return l
}

// textOf reads all places.
func textOf(t Table) string {
	var s []byte
	for _, x := range placesOf(t) {
		if x.add {
			s = append(s, t.New[x.at])
		} else {
			s = append(s, t.Old[x.at])
		}
	}
	return string(s)
}

// piecesOf counts from each first byte up to the next one.
func piecesOf(l []place) (out []api.Piece) {
	for _, x := range l {
		if x.first {
			out = append(out, api.Piece{Add: x.add, At: x.at})
		}
		out[len(out)-1].N++
	}
	return out
}

// splicedBy takes a splice that is within the text of a table that may be: the bytes behind both cuts are the first ones.
func splicedBy(t Table, c api.Splice) Table {
	l := placesOf(t)
	for _, at := range []int{c.At, c.At + c.N} {
		if at < len(l) {
			l[at].first = true
		}
	}
	var put []place
	for i := range len(c.Put) {
		put = append(put, place{add: true, first: i == 0, at: len(t.New) + i})
	}
	l = slices.Concat(l[:c.At], put, l[c.At+c.N:])
	return Table{Old: t.Old, New: t.New + c.Put, L: piecesOf(l)}
}

// plainly is the splice of a text.
func plainly(s string, c api.Splice) string {
	var t []byte
	for i := range len(s) + 1 {
		if i == c.At {
			t = append(t, c.Put...)
		}
		if i < len(s) && (i < c.At || i >= c.At+c.N) {
			t = append(t, s[i])
		}
	}
	return string(t)
}

func same(a, b Table) bool {
	return a.Old == b.Old && a.New == b.New && slices.Equal(a.L, b.L)
}

// copyOf is another table of the same.
func copyOf(t Table) Table {
	t.L = slices.Clone(t.L)
	return t
}

// sameSplice holds a splice of a table that may be against that of its places, and of its text; it hands on what was told.
func sameSplice(t *testing.T, x Table, c api.Splice) Table {
	t.Helper()
	want := splicedBy(x, c)
	text := plainly(textOf(x), c)
	y, ok := Splice(x, c)
	if !ok || !same(y, want) || Text(y) != text || Len(y) != len(text) || !May(y) {
		t.Fatalf("%v, %v: %v %v, not %v: %q, not %q: %d, %v", x, c, y, ok, want, Text(y), text, Len(y), May(y))
	}
	return y
}

// noSplice holds that all is as it was.
func noSplice(t *testing.T, x Table, c api.Splice) {
	t.Helper()
	if y, ok := Splice(x, c); ok || !same(y, x) {
		t.Fatalf("%v, %v: %v %v", x, c, y, ok)
	}
}

// splices tells all that may be of n bytes, each with all of those texts.
func splices(n int, puts ...string) iter.Seq[api.Splice] {
	return func(yield func(api.Splice) bool) {
		for at := range n + 1 {
			for gone := range n - at + 1 {
				for _, put := range puts {
					if !yield(api.Splice{At: at, N: gone, Put: put}) {
						return
					}
				}
			}
		}
	}
}

func anyText(chance *rand.Rand, most int) string {
	s := make([]byte, chance.Intn(most+1))
	for i := range s {
		s[i] = byte('a' + chance.Intn(26))
	}
	return string(s)
}

func anySplice(chance *rand.Rand, n int) api.Splice {
	at := chance.Intn(n + 1)
	return api.Splice{At: at, N: chance.Intn(min(n-at, 6) + 1), Put: anyText(chance, 5)}
}
