package rex

import (
	"slices"
	"strings"

	"lemmata/api"
)

// readings tells all ways in which s is a pattern, straight out of the words that say what a pattern is: it tries each place at which s may be parted. (So short a text has no brackets that are too deep.)
func readings(s string) [][]api.Item {
	if len(s) < 1 || len(s) > 24 {
		return nil
	}
	return readers{}.pattern(s)
}

// readers keeps what was found, by what was asked for and of which text.
type readers map[[2]string][][]api.Item

func (r readers) once(what, s string, find func() [][]api.Item) [][]api.Item {
	key := [2]string{what, s}
	if _, ok := r[key]; !ok {
		r[key] = find()
	}
	return r[key]
}

func (r readers) pattern(s string) [][]api.Item {
	return r.once("pattern", s, func() [][]api.Item {
		out := r.piece(s)
		for i := range len(s) {
			if s[i] == '|' {
				out = append(out, both(r.pattern(s[:i]), r.piece(s[i+1:]), api.Item{Op: api.Alt})...)
			}
		}
		return out
	})
}

func (r readers) piece(s string) [][]api.Item {
	return r.once("piece", s, func() [][]api.Item {
		out := r.part(s)
		for i := 1; i < len(s); i++ {
			if last := r.part(s[i:]); last != nil {
				out = append(out, both(r.piece(s[:i]), last, api.Item{Op: api.Join})...)
			}
		}
		return out
	})
}

// part is an atom and what stands behind it.
func (r readers) part(s string) [][]api.Item {
	return r.once("part", s, func() [][]api.Item {
		out := r.atom(s)
		for sign, op := range map[string]int{"*": api.Star, "+": api.Plus, "?": api.Maybe} {
			if front, ok := strings.CutSuffix(s, sign); ok {
				for _, l := range r.part(front) {
					out = append(out, append(slices.Clone(l), api.Item{Op: op}))
				}
			}
		}
		return out
	})
}

func (r readers) atom(s string) (out [][]api.Item) {
	if inner, ok := between(s, "(", ")"); ok {
		out = append(out, r.pattern(inner)...)
	}
	if inner, ok := between(s, "[", "]"); ok {
		for _, l := range ranges(inner) {
			out = append(out, []api.Item{{Op: api.Class, L: l}})
		}
	}
	if s == "." {
		out = append(out, []api.Item{{Op: api.Class, L: []api.Range{{Lo: 32, Hi: 126}}}})
	}
	if c, ok := oneByte(s, "()[]|*+?.\\"); ok {
		out = append(out, []api.Item{{Op: api.Class, L: []api.Range{{Lo: c, Hi: c}}}})
	}
	return out
}

func ranges(s string) (out [][]api.Range) {
	for i := range len(s) {
		last, ok := oneRange(s[i:])
		if !ok {
			continue
		}
		if i == 0 {
			out = append(out, []api.Range{last})
		}
		for _, l := range ranges(s[:i]) {
			out = append(out, append(slices.Clone(l), last))
		}
	}
	return out
}

func oneRange(s string) (api.Range, bool) {
	if c, ok := oneByte(s, "]-\\"); ok {
		return api.Range{Lo: c, Hi: c}, true
	}
	for i := range len(s) {
		if s[i] != '-' {
			continue
		}
		low, ok := oneByte(s[:i], "]-\\")
		high, ok2 := oneByte(s[i+1:], "]-\\")
		if ok && ok2 && low <= high {
			return api.Range{Lo: low, Hi: high}, true
		}
	}
	return api.Range{}, false
}

func oneByte(s, but string) (byte, bool) {
	if len(s) == 1 && ' ' <= s[0] && s[0] <= '~' && !strings.Contains(but, s) {
		return s[0], true
	}
	if len(s) == 2 && s[0] == '\\' && strings.Contains(but, s[1:]) {
		return s[1], true
	}
	return 0, false
}

func between(s, open, shut string) (string, bool) {
	s, ok := strings.CutPrefix(s, open)
	s, ok2 := strings.CutSuffix(s, shut)
	return s, ok && ok2
}

func both(l, m [][]api.Item, last api.Item) (out [][]api.Item) {
	for _, a := range l {
		for _, b := range m {
			out = append(out, slices.Concat(a, b, []api.Item{last}))
		}
	}
	return out
}
