package box_test

import (
	"slices"
	"testing"

	"carousel/api"
	"carousel/box"
	"carousel/pattern"
	"carousel/term"
)

// model is a second way to keep a box: one pile of letters, in which each knows its lane, and whether it was looked at, so that there are no marks to go wrong.
type model struct {
	pile []letter
}

type letter struct {
	lane   int
	t      api.Term
	looked bool
}

func modelOf(b *box.Box) *model {
	m, marks := &model{}, b.Marks()
	for _, lane := range []int{1, 0} {
		for i, t := range b.Lane(lane) {
			m.pile = append(m.pile, letter{lane, t, i < marks[lane]})
		}
	}
	return m
}

func (m *model) copied() *model { return &model{slices.Clone(m.pile)} }

// state is what the pile tells of both lanes.
func (m *model) state() state {
	var s state
	for _, l := range m.pile {
		s.lanes[l.lane] = append(s.lanes[l.lane], l.t)
		if l.looked {
			s.marks[l.lane]++
		}
	}
	return s
}

func (m *model) put(lane int, t api.Term) api.Errno {
	if lane != 0 && lane != 1 {
		return api.ErrArg
	}
	if e := term.Check(t); e != api.OK {
		return e
	}
	if len(m.state().lanes[lane]) >= 256 {
		return api.ErrMail
	}
	m.pile = append(m.pile, letter{lane: lane, t: t})
	return api.OK
}

func (m *model) recv(ps []api.Pattern) (api.Term, int, []api.Bind, api.Errno) {
	for _, p := range ps {
		if e := pattern.Check(p, 32); e != api.OK {
			return api.Term{}, 0, nil, e
		}
	}
	for lane := range 2 {
		for i, l := range m.pile {
			for arm, p := range ps {
				if l.lane != lane || l.looked {
					continue
				}
				if binds, ok, _ := pattern.Match(p, l.t); ok {
					m.pile = slices.Delete(m.pile, i, i+1)
					m.look(false)
					return l.t, arm, binds, api.OK
				}
			}
		}
	}
	m.look(true)
	return api.Term{}, 0, nil, api.ErrNone
}

func (m *model) look(looked bool) {
	for i := range m.pile {
		m.pile[i].looked = looked
	}
}

// deed is a call on a box: which one, with what.
type deed struct {
	what string
	lane int
	t    api.Term
	ps   []api.Pattern
}

// both does a deed to a box and to its model, and asks whether they tell the same.
func both(t *testing.T, b *box.Box, m *model, d deed) {
	t.Helper()
	switch d.what {
	case "put":
		if e, f := b.Put(d.lane, d.t), m.put(d.lane, d.t); e != f {
			t.Fatalf("Put(%d, %s): %d, not %d", d.lane, show(d.t), e, f)
		}
	case "recv":
		x, arm, binds, e := m.recv(d.ps)
		if e != api.OK {
			wantNoRecv(t, b, d.ps, e)
		} else {
			wantRecv(t, b, d.ps, x, arm, binds...)
		}
	case "reset":
		b.Reset()
		m.look(false)
	}
	holds(t, b, m.state())
}

// deeds are some of each kind.
func deeds(t *testing.T) []deed {
	t.Helper()
	a, pair := atom("a"), terms(t, "{a, 1}")[0]
	return []deed{
		{what: "put", lane: 0, t: a}, {what: "put", lane: 1, t: a}, {what: "put", lane: 0, t: pair}, {what: "put", lane: 1, t: pair}, {what: "put", lane: 2, t: a}, {what: "put", lane: 1},
		{what: "recv", ps: pats(t, "a")}, {what: "recv", ps: pats(t, "{_, $0}; a")}, {what: "recv", ps: pats(t, "b; {$1, $0}")}, {what: "recv", ps: pats(t, "z")}, {what: "recv", ps: pats(t, "_")}, {what: "recv", ps: []api.Pattern{whatever(), {}}},
		{what: "reset"},
	}
}

// All short rows of deeds, from boxes within and at their limits on. Each row goes its own way from a copy.
func TestP121ShortRowsOfDeeds(t *testing.T) {
	everyRow(t, box.New(), &model{}, deeds(t), 4)
	for _, s := range states(t) {
		b := s.load(t)
		everyRow(t, b, modelOf(b), deeds(t), 2)
	}
}

func everyRow(t *testing.T, b *box.Box, m *model, ds []deed, left int) {
	holds(t, b, m.state())
	if left == 0 {
		return
	}
	for _, d := range ds {
		c, n := b.Copy(), m.copied()
		both(t, c, n, d)
		everyRow(t, c, n, ds, left-1)
	}
	holds(t, b, m.state())
}

// draw are numbers by a fixed rule.
type draw uint64

func (d *draw) below(n int) int {
	*d = *d*6364136223846793005 + 1442695040888963407
	return int(*d>>33) % n
}

// message is a drawn one. The number in most of them is one that no other has.
func (d *draw) message(number int) api.Term {
	key := atom(string(rune('a' + d.below(4))))
	switch d.below(9) {
	case 0:
		return key
	case 1:
		return in(d.below(4))
	case 2:
		return list(key, in(number), num(float64(number), 0))
	case 3:
		return tuple(atom("exit"), pid(d.below(256), number+1), key)
	}
	return tuple(key, in(number))
}

// patterns are drawn ones, of which none matches all.
func (d *draw) patterns(t *testing.T) []api.Pattern {
	t.Helper()
	few := []string{"a", "b", "{a, _}", "{b, $0}", "{c, $3}", "{$1, $0}", "{d, :int}", "[a | $0]", "[$0, $1, $2]", "[_ | _]", "{exit, :pid, $0}", "{exit, _, c}", ":int", "1", "2", "{}", "{_, 7}", "[]", "zz", ":nil"}
	var ps []api.Pattern
	for range d.below(4) {
		ps = append(ps, pats(t, few[d.below(len(few))])...)
	}
	return ps
}

// deed is a drawn one. By the phase there are more of those that fill a box, or of those that empty it.
func (d *draw) deed(t *testing.T, phase, number int) deed {
	t.Helper()
	kinds := [][]string{
		{"put", "put", "put", "put", "put", "put", "put", "recv", "all", "reset"},
		{"put", "put", "put", "put", "recv", "recv", "recv", "all", "reset"},
		{"put", "recv", "all", "all", "all", "all", "all", "all", "reset"},
		{"put", "put", "recv", "all", "all", "all", "all", "all", "reset"},
	}[phase%4]
	x := deed{what: kinds[d.below(len(kinds))], lane: d.below(2)}
	switch x.what {
	case "put":
		x.t = d.message(number)
		if d.below(40) == 0 {
			x.lane = d.below(5) - 2
		}
		if d.below(40) == 0 {
			x.t = wrongs()[d.below(len(wrongs()))].t
		}
	case "recv":
		x.ps = d.patterns(t)
		if d.below(40) == 0 {
			x.ps = append(x.ps, wrongPatterns()[d.below(len(wrongPatterns()))].p)
		}
	case "all":
		x.what, x.ps = "recv", append(d.patterns(t), whatever())
	}
	return x
}

// Scripts over some boxes, drawn: calls on one of them, one that becomes a copy of another one, or is loaded from what it tells, or with other marks, or is refused; what they tell is written over, and changes none of them.
func TestP121LongScripts(t *testing.T) {
	var d draw = 12
	var bs []*box.Box
	var ms []*model
	for range 4 {
		bs, ms = append(bs, box.New()), append(ms, &model{})
	}
	full, empty, found, none := 0, 0, 0, 0
	for n := range 40000 {
		i, j := d.below(4), d.below(4)
		switch d.below(60) {
		case 0:
			bs[j], ms[j] = bs[i].Copy(), ms[i].copied()
		case 1:
			bs[j] = ms[i].state().load(t)
			ms[j] = modelOf(bs[j])
		case 2:
			s := ms[i].state()
			s.marks = [2]int{d.below(len(s.lanes[0]) + 1), d.below(len(s.lanes[1]) + 1)}
			bs[j] = s.load(t)
			ms[j] = modelOf(bs[j])
			holds(t, bs[j], s)
		case 3:
			s := ms[i].state()
			s.marks[d.below(2)] = -1 - d.below(3)
			wantNoLoad(t, s, api.ErrArg)
		case 4:
			scribble(bs[i].Lane(d.below(3)), scribbled())
		default:
			x := d.deed(t, n/2500, n)
			before := len(ms[i].pile)
			both(t, bs[i], ms[i], x)
			switch {
			case x.what == "put" && before == len(ms[i].pile):
				full++
			case x.what == "recv" && before == 0:
				empty++
			case x.what == "recv" && before > len(ms[i].pile):
				found++
			case x.what == "recv":
				none++
			}
		}
		if n%50 == 0 {
			for k := range bs {
				holds(t, bs[k], ms[k].state())
			}
		}
	}
	if min(full, empty, found, none) < 300 {
		t.Error("the scripts come too seldom to something:", full, empty, found, none)
	}
}
