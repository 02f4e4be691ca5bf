package timer_test

import (
	"slices"
	"testing"

	"carousel/api"
	"carousel/term"
	"carousel/timer"
)

// model is a second way to keep timers: one list that is always in order, into which each is put ahead of the first one that is due later.
type model struct {
	now int
	l   []api.Fired
}

func modelOf(w *timer.Wheel) *model { return &model{w.Now(), w.List()} }

func (m *model) copied() *model { return &model{m.now, slices.Clone(m.l)} }

func (m *model) state() state { return state{m.now, m.l} }

func (m *model) find(ref int) int {
	return slices.IndexFunc(m.l, func(f api.Fired) bool { return f.Ref == ref })
}

func mayBePid(p api.Pid) bool {
	return p.N >= 0 && p.N < 256 && p.Gen >= 1 && p.Gen <= api.MaxInt
}

func (m *model) set(ref, ticks int, p api.Pid, t api.Term) api.Errno {
	if ref < 1 || m.find(ref) >= 0 || ticks < 0 || ticks > 1<<20 || !mayBePid(p) {
		return api.ErrArg
	}
	if e := term.Check(t); e != api.OK {
		return e
	}
	if len(m.l) >= 256 {
		return api.ErrTimers
	}
	i := 0
	for i < len(m.l) && m.l[i].At <= m.now+ticks {
		i++
	}
	m.l = slices.Insert(m.l, i, api.Fired{Ref: ref, At: m.now + ticks, Pid: p, Term: t})
	return api.OK
}

func (m *model) cancel(ref int) (int, api.Errno) {
	i := m.find(ref)
	if i < 0 {
		return 0, api.ErrNone
	}
	left := m.l[i].At - m.now
	m.l = slices.Delete(m.l, i, i+1)
	if left < 0 {
		left = 0
	}
	return left, api.OK
}

func (m *model) drop(p api.Pid) int {
	before := len(m.l)
	m.l = slices.DeleteFunc(m.l, func(f api.Fired) bool { return f.Pid == p })
	return before - len(m.l)
}

func (m *model) tick(n int) api.Errno {
	if n < 0 || n > 1<<20 || m.now+n > end {
		return api.ErrArg
	}
	m.now += n
	return api.OK
}

func (m *model) due() []api.Fired {
	n := m.state().due()
	l := slices.Clone(m.l[:n])
	m.l = slices.Delete(m.l, 0, n)
	return l
}

// deed is a call on a wheel: which one, with what.
type deed struct {
	what string
	n    int // the ref, or how many ticks
	f    api.Fired
}

// both does a deed to a wheel and to its model, and asks whether they tell the same.
func both(t *testing.T, w *timer.Wheel, m *model, d deed) {
	t.Helper()
	switch d.what {
	case "set":
		got, f := w.Set(d.f.Ref, d.n, d.f.Pid, d.f.Term), m.set(d.f.Ref, d.n, d.f.Pid, d.f.Term)
		if got != f {
			t.Fatalf("at %d: Set(%d, %d, %v): %d, not %d", m.now, d.f.Ref, d.n, d.f.Pid, got, f)
		}
	case "cancel":
		left, e := m.cancel(d.n)
		wantCancel(t, w, d.n, left, e)
	case "drop":
		wantDrop(t, w, d.f.Pid, m.drop(d.f.Pid))
	case "tick":
		if e, f := w.Tick(d.n), m.tick(d.n); e != f {
			t.Fatalf("at %d: Tick(%d): %d, not %d", m.now, d.n, e, f)
		}
	case "due":
		wantDue(t, w, m.due()...)
	}
	if w.Now() != m.now || w.Any() != (m.state().due() > 0) {
		t.Fatalf("behind %v: Now: %d, Any: %v, not %d, %v", d, w.Now(), w.Any(), m.now, !w.Any())
	}
}

// deeds are some of each kind.
func deeds() []deed {
	return []deed{
		{what: "set", n: 0, f: own(1, 0)}, {what: "set", n: 1, f: own(2, 0)}, {what: "set", n: 2, f: own(3, 0)}, {what: "set", n: 40, f: own(4, 0)}, {what: "set", n: -1, f: own(5, 0)}, {what: "set", n: 1, f: api.Fired{Ref: 6, Pid: pid(0, 1)}},
		{what: "cancel", n: 1}, {what: "cancel", n: 3}, {what: "drop", f: own(2, 0)}, {what: "tick", n: 1}, {what: "tick", n: 39}, {what: "tick", n: 1 << 20}, {what: "due"},
	}
}

// All short rows of deeds, from wheels within and at their limits on. Each row goes its own way from a copy.
func TestTi1ShortRowsOfDeeds(t *testing.T) {
	for _, now := range []int{0, 31, end - 1<<20} {
		everyRow(t, begun(t, now), &model{now: now}, deeds(), 4)
	}
	for _, s := range states() {
		w := s.load(t)
		everyRow(t, w, modelOf(w), deeds(), 2)
	}
}

func everyRow(t *testing.T, w *timer.Wheel, m *model, ds []deed, left int) {
	holds(t, w, m.state())
	if left == 0 {
		return
	}
	for _, d := range ds {
		c, n := w.Copy(), m.copied()
		both(t, c, n, d)
		everyRow(t, c, n, ds, left-1)
	}
	holds(t, w, m.state())
}

// draw are numbers by a fixed rule.
type draw uint64

func (d *draw) below(n int) int {
	*d = *d*6364136223846793005 + 1442695040888963407
	return int(*d>>33) % n
}

// ticks are drawn ones: few, many, or such that lead just to, or beside, a number with many noughts.
func (d *draw) ticks(now int) int {
	n := 1 << d.below(21)
	switch d.below(4) {
	case 0:
		return d.below(n + 1)
	case 1:
		return d.below(4)
	case 2:
		return min(max(n-now%n+d.below(3)-1, 0), 1<<20)
	}
	return max(n-d.below(3), 0)
}

// deed is a drawn one. By the phase there are more of those that fill a wheel, or of those that empty it, and shorter or longer steps.
func (d *draw) deed(m *model, phase int) deed {
	kinds := [][]string{
		{"set", "set", "set", "set", "set", "set", "cancel", "tick"},
		{"set", "set", "set", "tick", "tick", "due", "cancel", "any"},
		{"set", "drop", "drop", "cancel", "cancel", "cancel", "tick", "due"},
		{"set", "set", "set", "set", "tick", "due", "due", "drop"},
	}[phase%4]
	x := deed{what: kinds[d.below(len(kinds))]}
	switch x.what {
	case "set":
		x.n, x.f = d.ticks(m.now), own(1+d.below(600), 0)
		x.f.Pid = pid(d.below(6), 1+d.below(3))
		switch d.below(60) {
		case 0:
			x.n = []int{-1, 1<<20 + 1, least, most}[d.below(4)]
		case 1:
			x.f.Pid = wrongPids()[d.below(len(wrongPids()))]
		case 2:
			x.f.Term = wrongs()[d.below(len(wrongs()))].t
		case 3:
			x.f.Ref = -d.below(3)
		}
	case "cancel":
		x.n = d.below(601)
	case "drop":
		x.f.Pid = pid(d.below(6), d.below(4))
	case "tick":
		x.n = d.ticks(m.now)
		if phase/4%2 == 0 {
			x.n %= 70
		}
		if d.below(40) == 0 {
			x.n = []int{-1, 1<<20 + 1, least, most}[d.below(4)]
		}
	}
	return x
}

// start is a drawn tick at which a wheel may begin.
func (d *draw) start() int {
	switch d.below(5) {
	case 0:
		return 0
	case 1:
		return d.below(1 << 21)
	case 2:
		return 1<<(20+d.below(40)) - d.below(100)
	case 3:
		return end - d.below(1<<21)
	}
	return end - 3<<20
}

// Scripts over some wheels, drawn: calls on one of them, one that begins anew, that becomes a copy of another one, or is loaded from what it tells; what they tell is written over, and changes none of them.
func TestTi2LongScripts(t *testing.T) {
	var d draw = 13
	var ws []*timer.Wheel
	var ms []*model
	for range 4 {
		ws, ms = append(ws, begun(t, 0)), append(ms, &model{})
	}
	count := map[string]int{}
	for n := range 120000 {
		i, j := d.below(4), d.below(4)
		switch d.below(80) {
		case 0:
			ws[j], ms[j] = ws[i].Copy(), ms[i].copied()
		case 1:
			ws[j], ms[j] = stateOf(ws[i]).load(t), ms[i].copied()
		case 2:
			scribble(ws[i].List())
		case 3:
			if d.below(10) == 0 {
				now := d.start()
				ws[j], ms[j] = begun(t, now), &model{now: now}
			}
		default:
			x := d.deed(ms[i], n/2500)
			before, due := len(ms[i].l), ms[i].state().due()
			both(t, ws[i], ms[i], x)
			switch after := len(ms[i].l); {
			case x.what == "set" && before == 256:
				count["full"]++
			case x.what == "drop" && after < before-1:
				count["many dropped"]++
			case x.what == "cancel" && after < before:
				count["cancelled"]++
			case x.what == "due" && after < before-1:
				count["many due"]++
			case x.what == "tick" && due < ms[i].state().due() && due > 0:
				count["more due"]++
			case x.what == "tick" && x.n > 0 && before > 0 && ms[i].now%1024 < 2:
				count["at an edge"]++
			}
		}
		if n%20 == 0 {
			for k := range ws {
				holds(t, ws[k], ms[k].state())
			}
		}
	}
	for _, what := range []string{"full", "many dropped", "cancelled", "many due", "more due", "at an edge"} {
		if count[what] < 500 {
			t.Error("the scripts come too seldom to something:", what, count[what])
		}
	}
}
