package expr

import (
	"lemmata/api"
	"lemmata/val"
)

// A text of more digits may be beyond an int64.
const mostDigits = 18

// scene is what an expression is reckoned of: of each occurrence its attributes, and its text.
type scene struct {
	vals  [][]api.Val
	texts []string
}

// eval answers new memory at each leaf, so that what is reckoned of it may be laid together without another copy.
func (s scene) eval(e api.Expr, deep int) api.Val {
	// Arguments that hold themselves must end somewhere.
	if deep == 0 || !takes(e.Op, len(e.Args)) {
		return bad(api.EArg)
	}
	switch e.Op {
	case api.Const:
		return taken(e.V)
	case api.Ref:
		return s.ref(e.Occ, e.Attr)
	case api.Text:
		return s.text(e.Occ)
	case api.Num:
		return s.number(e.Occ)
	case api.If:
		return s.choose(e.Args, deep-1)
	}
	args := make([]api.Val, len(e.Args))
	for i, arg := range e.Args {
		args[i] = s.eval(arg, deep-1)
		if args[i].Kind == api.Bad {
			return args[i]
		}
	}
	return small(reckon(e.Op, args))
}

func (s scene) ref(occ, attr int) api.Val {
	row, ok := shelf[[]api.Val](s.vals).at(occ)
	if !ok {
		return bad(api.ENone)
	}
	v, ok := shelf[api.Val](row).at(attr)
	if !ok {
		return bad(api.ENone)
	}
	return taken(v)
}

func (s scene) text(occ int) api.Val {
	text, ok := shelf[string](s.texts).at(occ)
	if !ok {
		return bad(api.ENone)
	}
	return small(str(text))
}

func (s scene) number(occ int) api.Val {
	text, ok := shelf[string](s.texts).at(occ)
	if !ok {
		return bad(api.ENone)
	}
	if len(text) < 1 || len(text) > mostDigits {
		return bad(api.EForm)
	}
	n := int64(0)
	for _, c := range []byte(text) {
		if c < '0' || c > '9' {
			return bad(api.EForm)
		}
		n = 10*n + int64(c-'0')
	}
	return num(n)
}

// choose leaves alone the one that is not asked for, whatever it would come to.
func (s scene) choose(args []api.Expr, deep int) api.Val {
	first := s.eval(args[0], deep)
	if first.Kind == api.Bad {
		return first
	}
	is, ok := asBool(first)
	if !ok {
		return bad(api.EType)
	}
	if is {
		return s.eval(args[1], deep)
	}
	return s.eval(args[2], deep)
}

// taken lets in from outside only what may be, so that all that is reckoned of it may be too.
func taken(v api.Val) api.Val {
	if v = small(v); !val.May(v) {
		return bad(api.EArg)
	}
	return val.Ins(nil, v)[0] // all that Ins answers is new
}

func small(v api.Val) api.Val {
	if val.Size(v) > api.MaxSize {
		return bad(api.ESize)
	}
	return v
}
