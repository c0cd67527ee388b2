package piece

import (
	"iter"
	"slices"
	"testing"

	"lemmata/api"
)

// first stops behind so many.
func first(n int, l iter.Seq[api.Piece]) (out []api.Piece) {
	if n == 0 {
		return nil
	}
	for p := range l {
		out = append(out, p)
		if len(out) == n {
			break
		}
	}
	return out
}

// One that stops early is told no more.
func TestPiecesOneByOne(t *testing.T) {
	x := Table{Old: "abc", New: "DE", L: []api.Piece{{N: 0}, {N: 3}, {At: 4, N: 1}, {Add: true, N: 2}, {Add: true, N: 3}, {At: 2, N: 1}, {At: -1, N: 1}}}
	all := []api.Piece{{N: 3}, {Add: true, N: 2}, {At: 2, N: 1}}
	for n := range len(all) + 1 {
		if l := first(n, pieces(x)); !slices.Equal(l, all[:n]) {
			t.Errorf("%d: %v", n, l)
		}
	}
	for _, y := range []struct {
		from, to int
		l        []api.Piece
	}{
		{0, 6, all}, {0, 0, nil}, {6, 6, nil}, {3, 3, nil}, {2, 2, nil},
		{0, 3, all[:1]}, {3, 5, all[1:2]}, {5, 6, all[2:]}, {0, 2, []api.Piece{{N: 2}}},
		{1, 4, []api.Piece{{At: 1, N: 2}, {Add: true, N: 1}}}, {4, 6, []api.Piece{{Add: true, At: 1, N: 1}, {At: 2, N: 1}}},
		{1, 2, []api.Piece{{At: 1, N: 1}}}, {2, 6, []api.Piece{{At: 2, N: 1}, {Add: true, N: 2}, {At: 2, N: 1}}},
	} {
		for n := range len(y.l) + 1 {
			if l := first(n, part(x, y.from, y.to)); !slices.Equal(l, y.l[:n]) {
				t.Errorf("%d of %d to %d: %v", n, y.from, y.to, l)
			}
		}
		if l := slices.Collect(part(x, y.from, y.to)); !slices.Equal(l, y.l) {
			t.Errorf("%d to %d: %v", y.from, y.to, l)
		}
	}
}
