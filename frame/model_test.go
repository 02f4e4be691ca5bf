package frame_test

import (
	"slices"
	"testing"

	"carousel/api"
	"carousel/frame"
	"carousel/term"
)

// model is a second way to keep a stack: each call has its own part of the terms, so that there are no bases to go wrong.
type model struct {
	calls []modelCall
	first []api.Term // those of no call
}

type modelCall struct {
	fn, at int
	locals []api.Term
	terms  []api.Term
}

func (m *model) copied() *model {
	other := &model{first: slices.Clone(m.first)}
	for _, c := range m.calls {
		c.locals, c.terms = slices.Clone(c.locals), slices.Clone(c.terms)
		other.calls = append(other.calls, c)
	}
	return other
}

func (m *model) call() *modelCall { return &m.calls[len(m.calls)-1] }

// above are the terms that may be taken.
func (m *model) above() *[]api.Term {
	if len(m.calls) == 0 {
		return &m.first
	}
	return &m.call().terms
}

func (m *model) view() api.View {
	v := api.View{Terms: slices.Clone(m.first)}
	for _, c := range m.calls {
		v.Frames = append(v.Frames, api.Frame{Func: c.fn, At: c.at, Base: len(v.Terms), Locals: c.locals})
		v.Terms = append(v.Terms, c.terms...)
	}
	return v
}

func modelOf(v api.View) *model {
	m := &model{first: slices.Clone(v.Terms)}
	for _, f := range slices.Backward(v.Frames) {
		c := modelCall{f.Func, f.At, slices.Clone(f.Locals), slices.Clone(m.first[f.Base:])}
		m.first = m.first[:f.Base]
		m.calls = append([]modelCall{c}, m.calls...)
	}
	return m
}

func (m *model) push(t api.Term) api.Errno {
	if e := term.Check(t); e != api.OK {
		return e
	}
	if len(m.view().Terms) >= 256 {
		return api.ErrHigh
	}
	l := m.above()
	*l = append(*l, t)
	return api.OK
}

func (m *model) pop() (api.Term, api.Errno) {
	l := m.above()
	if len(*l) == 0 {
		return api.Term{}, api.ErrEmpty
	}
	t := (*l)[len(*l)-1]
	*l = (*l)[:len(*l)-1]
	return t, api.OK
}

func (m *model) enter(fn, params, locals int) api.Errno {
	if fn < 0 || fn > 63 || locals < 0 || locals > 32 || params < 0 || params > locals {
		return api.ErrArg
	}
	if len(*m.above()) < params {
		return api.ErrEmpty
	}
	if len(m.calls) >= 64 {
		return api.ErrDeep
	}
	c := modelCall{fn: fn}
	for range params {
		t, _ := m.pop()
		c.locals = append([]api.Term{t}, c.locals...)
	}
	for len(c.locals) < locals {
		c.locals = append(c.locals, null())
	}
	m.calls = append(m.calls, c)
	return api.OK
}

func (m *model) leave() api.Errno {
	if len(m.calls) == 0 {
		return api.ErrEmpty
	}
	t, e := m.pop()
	if e != api.OK {
		return e
	}
	m.calls = m.calls[:len(m.calls)-1]
	l := m.above()
	*l = append(*l, t)
	return api.OK
}

func (m *model) set(i int, t api.Term) api.Errno {
	if len(m.calls) == 0 {
		return api.ErrEmpty
	}
	if e := term.Check(t); e != api.OK {
		return e
	}
	if i < 0 || i >= len(m.call().locals) {
		return api.ErrNone
	}
	m.call().locals[i] = t
	return api.OK
}

func (m *model) goTo(at int) api.Errno {
	if at < 0 || at > 1023 {
		return api.ErrArg
	}
	if len(m.calls) == 0 {
		return api.ErrEmpty
	}
	m.call().at = at
	return api.OK
}

// deed is a call on a stack: which one, with what.
type deed struct {
	what    string
	a, b, c int
	t       api.Term
}

// both does a deed to a stack and to its model, and asks whether they tell the same.
func both(t *testing.T, s *frame.Stack, m *model, d deed) {
	t.Helper()
	var e, f api.Errno
	switch d.what {
	case "push":
		e, f = s.Push(d.t), m.push(d.t)
	case "pop":
		x, g := s.Pop()
		y, h := m.pop()
		wantTerm(t, "Pop", x, g, y, h)
	case "enter":
		e, f = s.Enter(d.a, d.b, d.c), m.enter(d.a, d.b, d.c)
	case "leave":
		e, f = s.Leave(), m.leave()
	case "set":
		e, f = s.Set(d.a, d.t), m.set(d.a, d.t)
	case "go":
		e, f = s.Go(d.a), m.goTo(d.a)
	}
	if e != f {
		t.Fatalf("%v: %d, not %d", d, e, f)
	}
}

// deeds are some of each kind.
func deeds() []deed {
	return []deed{
		{what: "push", t: in(1)}, {what: "push", t: atom("a")}, {what: "push"}, {what: "pop"},
		{what: "enter", a: 1, b: 0, c: 0}, {what: "enter", a: 2, b: 1, c: 1}, {what: "enter", a: 3, b: 1, c: 2}, {what: "enter", a: 4, b: 2, c: 3}, {what: "enter", a: 5, b: 2, c: 1},
		{what: "leave"}, {what: "set", a: 0, t: in(7)}, {what: "set", a: 1, t: in(8)}, {what: "set", a: 0}, {what: "go", a: 9}, {what: "go", a: 1024},
	}
}

// All short rows of deeds, from stacks within and at their limits on. Each row goes its own way from a copy.
func TestFr5ShortRowsOfDeeds(t *testing.T) {
	for _, v := range []api.View{{}, twoCalls()} {
		everyRow(t, load(t, v), modelOf(v), 4)
	}
	for _, v := range []api.View{view(row(255), slices.Repeat([]api.Frame{call(6, 6, 250, in(6))}, 63)...), view(row(256), slices.Repeat([]api.Frame{call(6, 6, 254, in(6))}, 64)...)} {
		everyRow(t, load(t, v), modelOf(v), 2)
	}
}

func everyRow(t *testing.T, s *frame.Stack, m *model, left int) {
	holds(t, s, m.view())
	if left == 0 {
		return
	}
	for _, d := range deeds() {
		u, n := s.Copy(), m.copied()
		both(t, u, n, d)
		everyRow(t, u, n, left-1)
	}
	holds(t, s, m.view())
}

// draw are numbers by a fixed rule.
type draw uint64

func (d *draw) below(n int) int {
	*d = *d*6364136223846793005 + 1442695040888963407
	return int(*d>>33) % n
}

// deed is a drawn one. By the phase there are more of those that make a stack higher, or deeper, or less.
func (d *draw) deed(phase int) deed {
	kinds := []string{"push", "pop", "enter", "leave", "set", "go"}
	kinds = append(kinds, [][]string{
		{"push", "push", "push", "push", "push", "push"},
		{"push", "enter", "push", "enter", "enter"},
		{"pop", "leave", "pop", "leave"},
	}[phase%3]...)
	x := deed{what: kinds[d.below(len(kinds))], a: d.below(66) - 1}
	switch x.what {
	case "push":
		x.t = in(d.below(1000))
	case "enter":
		x.c = d.below(5)
		x.b = d.below(x.c + 2)
	case "set":
		x.a = d.below(6) - 1
		x.t = in(d.below(1000))
	case "go":
		x.a = d.below(1026) - 1
	}
	if d.below(20) == 0 {
		x.t = wrongs()[d.below(5)].t
	}
	return x
}

func TestFr5LongRowsOfDeeds(t *testing.T) {
	var d draw = 9
	high, deep := 0, 0
	for range 20 {
		s, m := frame.New(), &model{}
		for n := range 4500 {
			both(t, s, m, d.deed(n/500))
			if n%10 == 0 {
				holds(t, s, m.view())
			}
			if n%250 == 0 {
				s = load(t, s.View())
			}
			high, deep = max(high, len(s.View().Terms)), max(deep, s.Depth())
		}
		holds(t, s, m.view())
	}
	if high != 256 || deep != 64 {
		t.Error("the rows come to no limits:", high, deep)
	}
}
