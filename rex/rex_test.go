package rex

import (
	"reflect"
	"slices"
	"strings"
	"testing"

	"lemmata/api"
)

func is(l ...api.Range) api.Item { return api.Item{Op: api.Class, L: l} }

// one is a Class of a byte alone.
func one(c byte) api.Item { return is(api.Range{Lo: c, Hi: c}) }

// ones are the Classes of bytes alone, joined from the left.
func ones(s string) (l []api.Item) {
	for i := range len(s) {
		l = append(l, one(s[i]))
		if i > 0 {
			l = append(l, join)
		}
	}
	return l
}

var (
	join  = api.Item{Op: api.Join}
	alt   = api.Item{Op: api.Alt}
	star  = api.Item{Op: api.Star}
	plus  = api.Item{Op: api.Plus}
	maybe = api.Item{Op: api.Maybe}
)

// wants holds Parse of s against want; nil: a no.
func wants(t *testing.T, s string, want []api.Item) {
	t.Helper()
	l, ok := Parse(s)
	if ok != (want != nil) || !reflect.DeepEqual(l, want) {
		t.Errorf("%q: %v %v, not %v", s, l, ok, want)
	}
}

func TestParse(t *testing.T) {
	a, b, c, d := one('a'), one('b'), one('c'), one('d')
	for s, want := range map[string][]api.Item{
		"a":        {a},
		"ab*":      {a, b, star, join},
		"abcd":     {a, b, join, c, join, d, join},
		"a|b|c|d":  {a, b, alt, c, alt, d, alt},
		"ab|cd":    {a, b, join, c, d, join, alt},
		"a|bc|d":   {a, b, c, join, alt, d, alt},
		"a*b+c?":   {a, star, b, plus, join, c, maybe, join},
		"a*|b+|c?": {a, star, b, plus, alt, c, maybe, alt},
		"a*+?*":    {a, star, plus, maybe, star},
		"a?**++??": {a, maybe, star, star, plus, plus, maybe, maybe},
		"(a)":      {a},
		"((a))":    {a},
		"(ab)*":    {a, b, join, star},
		"(a|b)+":   {a, b, alt, plus},
		"(a*)*":    {a, star, star},
		"(a|b)c":   {a, b, alt, c, join},
		"c(a|b)":   {c, a, b, alt, join},
		"a(bc)d":   {a, b, c, join, join, d, join},
		"ab(c)d":   {a, b, join, c, join, d, join},
		"(ab)(cd)": {a, b, join, c, d, join, join},
		"a|(b|c)":  {a, b, c, alt, alt},
		"(a|b)|c":  {a, b, alt, c, alt},
		"(a|b)?|c": {a, b, alt, maybe, c, alt},
		"a(b|c)*d": {a, b, c, alt, star, join, d, join},
		"((a|b)c)": {a, b, alt, c, join},
		"a((b)|c)": {a, b, c, alt, join},
		"a[b]*c":   {a, b, star, join, c, join},
		"[a][b]":   {a, b, join},
		"a|[b]":    {a, b, alt},
		"([a]|b)c": {a, b, alt, c, join},
	} {
		wants(t, s, want)
	}
}

func TestParseOfClasses(t *testing.T) {
	for s, want := range map[string]api.Item{
		".":         is(api.Range{Lo: 32, Hi: 126}),
		"[a]":       one('a'),
		"[a-a]":     one('a'),
		"[.]":       one('.'),
		"[[]":       one('['),
		"[^]":       one('^'),
		"[ -~]":     is(api.Range{Lo: 32, Hi: 126}),
		"[aba]":     is(api.Range{Lo: 'a', Hi: 'a'}, api.Range{Lo: 'b', Hi: 'b'}, api.Range{Lo: 'a', Hi: 'a'}),
		"[z0-9a-f]": is(api.Range{Lo: 'z', Hi: 'z'}, api.Range{Lo: '0', Hi: '9'}, api.Range{Lo: 'a', Hi: 'f'}),
		"[a-cb-d]":  is(api.Range{Lo: 'a', Hi: 'c'}, api.Range{Lo: 'b', Hi: 'd'}),
		"[a-cb]":    is(api.Range{Lo: 'a', Hi: 'c'}, api.Range{Lo: 'b', Hi: 'b'}),
		`[\]\-\\]`:  is(api.Range{Lo: ']', Hi: ']'}, api.Range{Lo: '-', Hi: '-'}, api.Range{Lo: '\\', Hi: '\\'}),
		`[\--a]`:    is(api.Range{Lo: '-', Hi: 'a'}),
		`[ -\-]`:    is(api.Range{Lo: ' ', Hi: '-'}),
		`[\\-\]]`:   is(api.Range{Lo: '\\', Hi: ']'}),
		`[\--\-]`:   one('-'),
		"[(-)]":     is(api.Range{Lo: '(', Hi: ')'}),
		"[()|*+?.]": is(api.Range{Lo: '(', Hi: '('}, api.Range{Lo: ')', Hi: ')'}, api.Range{Lo: '|', Hi: '|'}, api.Range{Lo: '*', Hi: '*'}, api.Range{Lo: '+', Hi: '+'}, api.Range{Lo: '?', Hi: '?'}, api.Range{Lo: '.', Hi: '.'}),
	} {
		wants(t, s, []api.Item{want})
	}
}

func TestParseOfEachByte(t *testing.T) {
	for n := range 256 {
		c := byte(n)
		may := ' ' <= c && c <= '~'
		outside, inside := strings.IndexByte(`()[]|*+?.\`, c) >= 0, strings.IndexByte(`]-\`, c) >= 0
		alone := []api.Item{one(c)}
		for s, ok := range map[string]bool{
			string([]byte{c}):                 may && !outside,
			string([]byte{'\\', c}):           outside,
			string([]byte{'[', c, ']'}):       may && !inside,
			string([]byte{'[', '\\', c, ']'}): inside,
		} {
			if s == "." {
				continue
			}
			if ok {
				wants(t, s, alone)
			} else {
				wants(t, s, nil)
			}
		}
	}
}

func TestParseOfNoPattern(t *testing.T) {
	for _, s := range []string{
		"", "*", "+", "?", "|", "*a", "a|*", "(*a)", "(a|+)", "a|", "|a", "a||b", "(a|)", "(|a)", "(a||b)",
		"(", ")", "()", "a()", "()a", "(a", "a)", "(a))", "((a)", ")a(", "(a)(", "(a)|()",
		"[", "]", "[]", "a[]", "[a", "a]", "[[]]", "[a]]", "([a)]", "[a|b", "[]a]",
		"[b-a]", "[a-]", "[-a]", "[-]", "[--]", "[a--]", "[a-b-c]", "[a-b-]", "[a-c-e-g]", `[\]-\-]`, `[a-\]]`, "[~- ]", "[^-]", "[a-", "[a-b",
		`\`, `a\`, `(a\)`, `[a\]`, `[\`, `\\\`, `\a`, `\-`, `\ `, `\^`, `[\a]`, `[\.]`, `[\[]`, `[\(]`, `[a-\z]`,
		"\n", "\t", "\x00", "\x7f", "a\x1f", "[\x80]", "[a-\x7f]", "[\x1f-a]", "\u00e9", "[\u00e9]", "\xff", "\\\n",
	} {
		wants(t, s, nil)
	}
}

func TestParseOfAnyLength(t *testing.T) {
	for n := range 60 {
		s := strings.Repeat("a", n)
		if 1 <= n && n <= 24 {
			wants(t, s, ones(s))
		} else {
			wants(t, s, nil)
		}
	}
	wants(t, "[abcdefghijklmnopqrstuvwxyz]", nil)
	wants(t, strings.Repeat("(", 1<<20), nil)
	wants(t, strings.Repeat("a", 1<<20), nil)
	stars := slices.Repeat([]api.Item{star}, 23)
	wants(t, "a"+strings.Repeat("*", 23), append([]api.Item{one('a')}, stars...))
	wants(t, "a"+strings.Repeat("*", 24), nil)
}

func TestParseOfBracketsInBrackets(t *testing.T) {
	for n := range 14 {
		s := strings.Repeat("(", n) + "a" + strings.Repeat(")", n)
		if n <= 11 {
			wants(t, s, []api.Item{one('a')})
		} else {
			wants(t, s, nil)
		}
		wants(t, strings.Repeat("(", n+1)+"a"+strings.Repeat(")", n), nil)
		wants(t, strings.Repeat("(", n)+"a"+strings.Repeat(")", n+1), nil)
	}
	wants(t, strings.Repeat("(", 24), nil)
	wants(t, strings.Repeat("(a)", 8), ones("aaaaaaaa"))
	bytes := slices.Repeat([]api.Range{{Lo: '(', Hi: '('}, {Lo: '[', Hi: '['}}, 11)
	wants(t, "["+strings.Repeat("([", 11)+"]", []api.Item{is(bytes...)})
	wants(t, strings.Repeat(`\(\[`, 6), ones("([([([([([(["))
}

// MaxRex bytes leave no room for brackets that are too deep: read is asked, which has no such bound.
func TestReadOfBracketsInBrackets(t *testing.T) {
	for atom, most := range map[string]int{"a": api.MaxDeep, "[a]": api.MaxDeep - 1} {
		for n := range 2 * api.MaxDeep {
			l, ok := read(strings.Repeat("(", n) + atom + strings.Repeat(")", n))
			if ok != (n <= most) || ok && !reflect.DeepEqual(l, []api.Item{one('a')}) || !ok && l != nil {
				t.Errorf("%s in %d: %v %v", atom, n, l, ok)
			}
		}
	}
	if _, ok := read(strings.Repeat("(a)", 100)); !ok {
		t.Error("brackets one behind the other are not deep")
	}
}

// against holds Parse against all readings of all texts of at most n of those bytes.
func against(t *testing.T, of string, n int) {
	t.Helper()
	texts := []string{""}
	for range n {
		var longer []string
		for _, s := range texts {
			for _, c := range []byte(of) {
				longer = append(longer, s+string(rune(c)))
			}
		}
		for _, s := range longer {
			all := readings(s)
			if len(all) > 1 {
				t.Fatalf("%q is read in %d ways", s, len(all))
			}
			wants(t, s, slices.Concat(all...))
		}
		if texts = longer; t.Failed() {
			return
		}
	}
}

func TestParseIsTheOneReading(t *testing.T) {
	against(t, "ab()[]|*+?.\\-\x7f", 4)
	against(t, "a()|*", 7)
	against(t, "ab[]-\\", 6)
	against(t, "a([])-", 6)
}

// Changes at each place of longer patterns, to each byte: what is still one, and what is none any more.
func TestParseOfChangedPatterns(t *testing.T) {
	for _, s := range []string{`(a|b)*c+[x-z]?|\(d\).`, `[a-zA-Z_][a-z0-9\-]*|a?`, `((a|b)(c|d))+|((e)*f?)`, `"([ -!#-~]|\\.)*"|[\]\\]`} {
		for i := range len(s) {
			for c := range 128 {
				for _, changed := range []string{s[:i] + string(rune(c)) + s[i+1:], s[:i] + string(rune(c)) + s[i:], s[:i] + s[i+1:]} {
					all := readings(changed)
					if len(all) > 1 {
						t.Fatalf("%q is read in %d ways", changed, len(all))
					}
					wants(t, changed, slices.Concat(all...))
				}
			}
		}
	}
}

func TestParseTellsNewMemory(t *testing.T) {
	s := "[ab]c[ab]|.."
	l, _ := Parse(s)
	want, _ := Parse(s)
	for i := range l {
		for j := range l[i].L {
			l[i].L[j] = api.Range{}
		}
		_ = append(l[i].L, api.Range{Lo: 1, Hi: 1})
		l[i].L = want[i].L
		if !reflect.DeepEqual(l, want) {
			t.Fatalf("item %d shares memory with another: %v", i, l)
		}
	}
	clear(l)
	wants(t, s, want)
}

func TestLetters(t *testing.T) {
	for s, want := range map[string][]letter{
		"":         nil,
		"ab":       {{'a', false}, {'b', false}},
		`\a\\b`:    {{'a', true}, {'\\', true}, {'b', false}},
		`\`:        {{'\\', false}},
		`\\`:       {{'\\', true}},
		`\\\`:      {{'\\', true}, {'\\', false}},
		`a\*`:      {{'a', false}, {'*', true}},
		"\x00\xff": {{0, false}, {255, false}},
	} {
		if got := slices.Collect(letters(s)); !slices.Equal(got, want) {
			t.Errorf("%q: %v", s, got)
		}
	}
	for l := range letters("abc") {
		if l.c != 'a' {
			t.Fatalf("%q comes behind the end", l.c)
		}
		break
	}
}
