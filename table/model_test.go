package table_test

import (
	"maps"
	"regexp"
	"slices"
	"testing"

	"carousel/api"
	"carousel/table"
)

// model is a second way to keep a table: by pids, without places, and names are looked for among all.
type model struct {
	had   []int
	alive map[api.Pid]string
}

func modelOf(x *table.Table) *model { return modelFrom(stateOf(x)) }

func modelFrom(s state) *model {
	m := &model{slices.Clone(s.gens), map[api.Pid]string{}}
	for i, p := range s.live {
		m.alive[p] = s.names[i]
	}
	return m
}

func (m *model) copied() *model { return &model{slices.Clone(m.had), maps.Clone(m.alive)} }

func (m *model) state() state {
	s := state{gens: slices.Clone(m.had)}
	s.live = slices.SortedFunc(maps.Keys(m.alive), func(a, b api.Pid) int { return a.N - b.N })
	for _, p := range s.live {
		s.names = append(s.names, m.alive[p])
	}
	return s
}

func (m *model) add() (api.Pid, api.Errno) {
	taken := map[int]bool{}
	for p := range m.alive {
		taken[p.N] = true
	}
	for n, had := range m.had {
		if !taken[n] && had != api.MaxInt {
			m.had[n] = had + 1
			m.alive[pid(n, had+1)] = ""
			return pid(n, had+1), api.OK
		}
	}
	return api.Pid{}, api.ErrActors
}

func (m *model) free(p api.Pid) api.Errno {
	if !m.is(p) {
		return api.ErrNone
	}
	delete(m.alive, p)
	return api.OK
}

func (m *model) is(p api.Pid) bool {
	_, ok := m.alive[p]
	return ok
}

var atomForm = regexp.MustCompile(`\A[a-z][a-zA-Z0-9_]{0,63}\z`)

func mayBeName(s string) bool {
	return atomForm.MatchString(s) && s != "nil" && s != "true" && s != "false"
}

func (m *model) name(p api.Pid, s string) api.Errno {
	if !mayBeName(s) {
		return api.ErrArg
	}
	if !m.is(p) {
		return api.ErrNone
	}
	if _, e := m.where(s); e == api.OK || m.alive[p] != "" {
		return api.ErrTaken
	}
	m.alive[p] = s
	return api.OK
}

func (m *model) where(s string) (api.Pid, api.Errno) {
	for p, name := range m.alive {
		if name == s && s != "" {
			return p, api.OK
		}
	}
	return api.Pid{}, api.ErrNone
}

// mayBe tells whether Load takes a state: the chapter's words, one by one.
func mayBe(s state) bool {
	if len(s.gens) < 1 || len(s.gens) > 256 || len(s.names) != len(s.live) || slices.Min(s.gens) < 0 || slices.Max(s.gens) > api.MaxInt {
		return false
	}
	for i, p := range s.live {
		if i > 0 && s.live[i-1].N >= p.N || p.N < 0 || p.N > len(s.gens)-1 || p.Gen < 1 || s.gens[p.N] != p.Gen {
			return false
		}
	}
	for i, name := range s.names {
		if name != "" && (!mayBeName(name) || slices.Contains(s.names[:i], name)) {
			return false
		}
	}
	return true
}

// deed is a call on a table: which one, with what.
type deed struct {
	what string
	p    api.Pid
	s    string
}

// both does a deed to a table and to its model, and asks whether they tell the same: which error it was.
func both(t *testing.T, x *table.Table, m *model, d deed) api.Errno {
	t.Helper()
	var e, f api.Errno
	var p, q api.Pid
	switch d.what {
	case "add":
		p, e = x.Add()
		q, f = m.add()
	case "free":
		e, f = x.Free(d.p), m.free(d.p)
	case "name":
		e, f = x.Name(d.p, d.s), m.name(d.p, d.s)
	case "where":
		p, e = x.Where(d.s)
		q, f = m.where(d.s)
	default:
		if got, should := x.NameOf(d.p), m.alive[d.p]; got != should || x.Is(d.p) != m.is(d.p) {
			t.Fatalf("NameOf(%v): %q, not %q; Is: %v, not %v, of %s", d.p, got, should, x.Is(d.p), m.is(d.p), m.state())
		}
	}
	if p != q || e != f {
		t.Fatalf("%v: %v, %d, not %v, %d, and there is %s", d, p, e, q, f, m.state())
	}
	return e
}

// deeds are some of each kind.
func deeds() []deed {
	return []deed{
		{what: "add"}, {what: "free", p: pid(0, 1)}, {what: "free", p: pid(0, 2)}, {what: "free", p: pid(1, 1)}, {what: "name", p: pid(0, 1), s: "a"}, {what: "name", p: pid(1, 1), s: "a"}, {what: "name", p: pid(1, 1), s: "b"}, {what: "name", p: pid(0, 2), s: "b"},
		{what: "name", p: pid(0, 1), s: "nil"}, {what: "name", p: pid(7, 1), s: "c"}, {what: "where", s: "a"}, {what: "of", p: pid(0, 1)},
	}
}

// All short rows of deeds, from tables within and at their limits on. Each row goes its own way from a copy.
func TestP142ShortRowsOfDeeds(t *testing.T) {
	everyRow(t, begun(t, 1), modelFrom(at([]int{0})), deeds()[:8], 5)
	everyRow(t, begun(t, 2), modelFrom(at([]int{0, 0})), deeds()[:8], 5)
	for _, s := range states() {
		everyRow(t, s.load(t), modelFrom(s), deeds(), 2)
	}
}

func everyRow(t *testing.T, x *table.Table, m *model, ds []deed, left int) {
	holds(t, x, m.state())
	if left == 0 {
		return
	}
	for _, d := range ds {
		c, n := x.Copy(), m.copied()
		both(t, c, n, d)
		everyRow(t, c, n, ds, left-1)
	}
	holds(t, x, m.state())
}

// draw are numbers by a fixed rule.
type draw uint64

func (d *draw) below(n int) int {
	*d = *d*6364136223846793005 + 1442695040888963407
	return int(*d>>33) % n
}

// pid is a drawn one: somebody who is alive, who was, or will be, at a place that there is, or almost.
func (d *draw) pid(m *model) api.Pid {
	n := d.below(len(m.had))
	p := pid(n, m.had[n])
	switch d.below(12) {
	case 0:
		p.Gen--
	case 1:
		p.Gen++
	case 2:
		p.N += d.below(3) - 1
	case 3:
		p = []api.Pid{{}, pid(-1, 1), pid(len(m.had), 1), pid(least, p.Gen), pid(most, p.Gen), pid(n, 0), pid(n, -1), pid(n, -p.Gen), pid(n+1<<32, p.Gen)}[d.below(9)]
	}
	return p
}

// name is a drawn one: out of so few that they meet, or none.
func (d *draw) name() string {
	if d.below(30) == 0 {
		l := noAtoms()
		return l[d.below(len(l))]
	}
	return own(d.below(60))
}

// deed is a drawn one. By the phase there are more of those that fill a table, or of those that empty it.
func (d *draw) deed(m *model, phase int) deed {
	kinds := [][]string{
		{"add", "add", "add", "add", "add", "name", "free", "where"},
		{"add", "free", "name", "name", "name", "where", "of", "free"},
		{"free", "free", "free", "free", "add", "name", "of", "where"},
		{"add", "add", "free", "name", "name", "add", "of", "free"},
	}[phase%4]
	return deed{what: kinds[d.below(len(kinds))], p: d.pid(m), s: d.name()}
}

// state is a drawn one that may be.
func (d *draw) state() state {
	room := []int{1, 2, 3, 5, 20, 255, 256}[d.below(7)]
	last := []int{2, 5, api.MaxInt}[d.below(3)]
	s := state{gens: make([]int, room)}
	some := 1 + d.below(4)
	for n := range room {
		s.gens[n] = max(last-d.below(3), 0)
		if s.gens[n] > 0 && d.below(some) > 0 {
			s.live = append(s.live, pid(n, s.gens[n]))
			name := ""
			if d.below(2) == 0 {
				name = own(n)
			}
			s.names = append(s.names, name)
		}
	}
	return s
}

// Scripts over some tables, drawn: calls on one of them, one that begins anew, that becomes a copy of another one, or is loaded; what they tell is written over, and changes none of them.
func TestP141LongScripts(t *testing.T) {
	var d draw = 5
	var xs []*table.Table
	var ms []*model
	for k := range 4 {
		s := many([]int{1, 3, 20, 256}[k], 0, never, nameless)
		xs, ms = append(xs, s.load(t)), append(ms, modelFrom(s))
	}
	count := map[string]int{}
	for n := range 120000 {
		i, j := d.below(4), d.below(4)
		switch d.below(300) {
		case 0:
			xs[j], ms[j] = xs[i].Copy(), ms[i].copied()
		case 1:
			xs[j], ms[j] = stateOf(xs[i]).load(t), ms[i].copied()
		case 2:
			spoil(xs[i].Live(), pid(9, 9))
			spoil(xs[i].Gens(), 99)
		case 3:
			s := d.state()
			xs[j], ms[j] = s.load(t), modelFrom(s)
		default:
			x := d.deed(ms[i], n/500)
			count[x.what+errText(both(t, xs[i], ms[i], x))]++
		}
		if n%20 == 0 {
			for k := range xs {
				holds(t, xs[k], ms[k].state())
			}
		}
	}
	for _, what := range []string{"add", "add full", "free", "free none", "name", "name arg", "name none", "name taken", "where", "where none", "of"} {
		if count[what] < 300 {
			t.Error("the scripts come too seldom to something:", what, count[what])
		}
	}
}

func errText(e api.Errno) string {
	switch e {
	case api.OK:
		return ""
	case api.ErrArg:
		return " arg"
	case api.ErrNone:
		return " none"
	case api.ErrActors:
		return " full"
	case api.ErrTaken:
		return " taken"
	}
	return " otherwise"
}
