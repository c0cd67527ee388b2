package lines

import (
	"iter"
	"math/rand"
	"slices"
	"strings"
	"testing"

	"lemmata/api"
)

// startsOf adds up the lines of s, each with its end.
func startsOf(s string) []int {
	l, at := []int{0}, 0
	for line := range strings.SplitAfterSeq(s, "\n") {
		at += len(line)
		l = append(l, at)
	}
	return l[:len(l)-1] // the last one is where the text ends
}

// posOf goes through s up to the place, as if there were more bytes without end behind s.
func posOf(s string, at int) (line, col int) {
	line = 1
	for i := range at {
		col++
		if i < len(s) && s[i] == 10 {
			line, col = line+1, 0
		}
	}
	return line, col
}

// plainly is the splice of a text.
func plainly(s string, c api.Splice) string {
	var t []byte
	for i := range len(s) + 1 {
		if i == c.At {
			t = append(t, c.Put...)
		}
		if i < len(s) && (i < c.At || i >= c.At+c.N) {
			t = append(t, s[i])
		}
	}
	return string(t)
}

// sameStarts holds Starts and Pos of s against those that are plainly told; it hands on the starts.
func sameStarts(t *testing.T, s string) []int {
	t.Helper()
	l := Starts(s)
	if want := startsOf(s); !slices.Equal(l, want) {
		t.Fatalf("%q: %v, not %v", s, l, want)
	}
	for at := range len(s) + 3 {
		wantLine, wantCol := posOf(s, at)
		if line, col := Pos(l, at); line != wantLine || col != wantCol {
			t.Fatalf("%q, %d: %d %d, not %d %d", s, at, line, col, wantLine, wantCol)
		}
	}
	for i, start := range l {
		if line, col := Pos(l, start); line != i+1 || col != 0 {
			t.Fatalf("%q: a line's start is its own: %d, not %d; %d", s, line, i+1, col)
		}
	}
	return l
}

// sameEdit holds an edit of the starts of s against the starts of the text with the splice; it hands on both of these.
func sameEdit(t *testing.T, s string, l []int, c api.Splice) (string, []int) {
	t.Helper()
	text := plainly(s, c)
	m := Edit(l, c)
	if want := startsOf(text); !slices.Equal(m, want) {
		t.Fatalf("%q, %v: %v, not %v", s, c, m, want)
	}
	return text, m
}

// splices tells all that may be of n bytes, each with all of those texts.
func splices(n int, puts []string) iter.Seq[api.Splice] {
	return func(yield func(api.Splice) bool) {
		for at := range n + 1 {
			for gone := range n - at + 1 {
				for _, put := range puts {
					if !yield(api.Splice{At: at, N: gone, Put: put}) {
						return
					}
				}
			}
		}
	}
}

// texts tells all of those bytes, of at most so many.
func texts(of string, most int) (l []string) {
	l = []string{""}
	for from := 0; most > 0; most-- {
		to := len(l)
		for _, s := range l[from:to] {
			for i := range len(of) {
				l = append(l, s+of[i:i+1])
			}
		}
		from = to
	}
	return l
}

func anyText(chance *rand.Rand, most int) string {
	s := make([]byte, chance.Intn(most+1))
	for i := range s {
		s[i] = "\n\n\rab\x00\xff"[chance.Intn(7)]
	}
	return string(s)
}

func anySplice(chance *rand.Rand, n int) api.Splice {
	at := chance.Intn(n + 1)
	return api.Splice{At: at, N: chance.Intn(min(n-at, 9) + 1), Put: anyText(chance, 8)}
}
