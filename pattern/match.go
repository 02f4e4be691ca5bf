package pattern

import (
	"slices"

	"carousel/api"
	"carousel/term"
)

// Match is whether a term matches, and what that binds.
func Match(p api.Pattern, t api.Term) ([]api.Bind, bool, api.Errno) {
	if e := Check(p, api.MaxLocals); e != api.OK {
		return nil, false, e
	}
	if e := term.Check(t); e != api.OK {
		return nil, false, e
	}
	binds, ok := match(p, t)
	return binds, ok, api.OK
}

// First is the first term, from a place on, that one of some patterns matches, which one, and what that binds.
func First(l []api.Term, from int, ps []api.Pattern) (at, arm int, binds []api.Bind, e api.Errno) {
	if e = checkAll(l, ps); e != api.OK {
		return 0, 0, nil, e
	}
	if from < 0 {
		return 0, 0, nil, api.ErrArg
	}
	for at := from; at < len(l); at++ {
		for arm, p := range ps {
			if binds, ok := match(p, l[at]); ok {
				return at, arm, binds, api.OK
			}
		}
	}
	return 0, 0, nil, api.ErrNone
}

func checkAll(l []api.Term, ps []api.Pattern) api.Errno {
	for _, p := range ps {
		if e := Check(p, api.MaxLocals); e != api.OK {
			return e
		}
	}
	for _, t := range l {
		if e := term.Check(t); e != api.OK {
			return e
		}
	}
	return api.OK
}

// match is Match of a pattern and a term that may be.
func match(p api.Pattern, t api.Term) ([]api.Bind, bool) {
	var m matcher
	if !m.matches(p, t) {
		return nil, false
	}
	return m.binds, true
}

// matcher keeps what is bound, in the order in which the locals stand. It goes no deeper than a pattern that may be.
type matcher struct {
	binds []api.Bind
}

func (m *matcher) matches(p api.Pattern, t api.Term) bool {
	switch p.Kind {
	case api.PatVar:
		m.binds = append(m.binds, api.Bind{Local: p.N, Term: t})
	case api.PatTerm:
		return isSame(p.Term, t)
	case api.PatKind:
		return t.Kind == p.N
	case api.PatTuple:
		return t.Kind == api.KindTuple && len(t.L) == len(p.L) && m.all(p.L, t.L)
	case api.PatList:
		return t.Kind == api.KindList && m.list(p, t.L)
	}
	return true
}

// isSame asks for the kinds first: the term may be a great one, the pattern's is none.
func isSame(leaf, t api.Term) bool {
	if leaf.Kind != t.Kind {
		return false
	}
	order, e := term.Compare(leaf, t)
	return order == 0 && e == api.OK
}

// all tells whether terms match patterns, one each, of which there are no more than terms.
func (m *matcher) all(ps []api.Pattern, l []api.Term) bool {
	for i, p := range ps {
		if !m.matches(p, l[i]) {
			return false
		}
	}
	return true
}

func (m *matcher) list(p api.Pattern, l []api.Term) bool {
	n := len(p.L)
	if len(l) < n || !m.all(p.L, l) {
		return false
	}
	if len(p.Rest) == 0 {
		return len(l) == n
	}
	return m.rest(p.Rest[0], l[n:])
}

// rest tells whether the list of what is left matches. It gets memory of its own only where it is handed out: most rests are looked at alone.
func (m *matcher) rest(p api.Pattern, left []api.Term) bool {
	if p.Kind == api.PatVar {
		left = slices.Clone(left)
	}
	return m.matches(p, api.Term{Kind: api.KindList, L: left})
}
