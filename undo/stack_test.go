package undo

import (
	"slices"
	"testing"
)

func TestStack(t *testing.T) {
	var s stack[string]
	for i, x := range []string{"a", "", "b", "a"} {
		s = s.with(x)
		if len(s) != i+1 || s[i] != x {
			t.Fatalf("%q", s)
		}
	}
	for _, x := range []string{"a", "b", "", "a"} {
		rest, last, ok := s.parted()
		if !ok || last != x || !slices.Equal(rest, s[:len(s)-1]) {
			t.Fatalf("%q: %q %q %v", s, rest, last, ok)
		}
		s = rest
	}
	if rest, last, ok := s.parted(); rest != nil || last != "" || ok {
		t.Errorf("%q %q %v", rest, last, ok)
	}
}

func TestStackHeld(t *testing.T) {
	s := stack[byte]("abcd")
	for most, want := range []string{"bcd", "bcd", "bcd", "bcd", "abcd", "abcd"} {
		if l := s.held(most); string(l) != want || string(s) != "abcd" {
			t.Errorf("%d: %q", most, l)
		}
	}
	if l := stack[byte](nil).held(0); len(l) != 0 {
		t.Errorf("%q", l)
	}
}

func TestStackIsNewMemory(t *testing.T) {
	was := stack[int](numbered(9, 1)[:5])
	for name, l := range map[string]stack[int]{"copied": was.copied(), "with": was.with(6), "held": was.held(5), "held of more": was.held(3)} {
		clear(l[:cap(l)])
		if !slices.Equal(was[:9], numbered(9, 1)) {
			t.Errorf("%s: %v", name, was[:9])
		}
	}
	rest, _, _ := was.parted()
	clear(rest[:cap(rest)])
	if !slices.Equal(was[:9], numbered(9, 1)) {
		t.Errorf("parted: %v", was[:9])
	}
}

func TestExchanged(t *testing.T) {
	from, to := stack[rune]("ab"), stack[rune]("c")
	rest, more, last, ok := exchanged(from, to, 'd')
	if string(rest) != "a" || string(more) != "cd" || last != 'b' || !ok {
		t.Errorf("%q %q %q %v", rest, more, last, ok)
	}
	rest, more, last, ok = exchanged(nil, to, 'd')
	if len(rest) != 0 || string(more) != "c" || last != 0 || ok {
		t.Errorf("%q %q %q %v", rest, more, last, ok)
	}
	if string(from) != "ab" || string(to) != "c" {
		t.Errorf("%q %q", from, to)
	}
}
