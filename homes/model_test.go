package homes_test

import (
	"slices"
	"testing"

	"carousel/api"
	"carousel/homes"
)

// home is where one actor is at home.
type home struct{ core, class int }

// model is a second way to keep accounts: each actor by itself, in the order in which they came; nothing is counted till it is asked for.
type model struct {
	cores int
	homes []home
}

func modelOf(s state) *model {
	m := &model{cores: len(s)}
	for core := range s {
		for class, count := range s[core] {
			m.homes = append(m.homes, slices.Repeat([]home{{core, class}}, count)...)
		}
	}
	return m
}

func (m *model) copied() *model { return &model{m.cores, slices.Clone(m.homes)} }

func (m *model) state() state {
	s := make(state, m.cores)
	for _, x := range m.homes {
		s[x.core][x.class]++
	}
	return s
}

func (m *model) is(x home) bool {
	return slices.Contains([]int{api.High, api.Normal, api.Low}, x.class) && x.core > -1 && x.core <= m.cores-1
}

func (m *model) count(x home) int {
	n := 0
	for _, y := range m.homes {
		if x == y {
			n++
		}
	}
	return n
}

func (m *model) take(x home) api.Errno {
	switch {
	case !m.is(x):
		return api.ErrArg
	case m.count(x) == 64:
		return api.ErrQueue
	}
	m.homes = append(m.homes, x)
	return api.OK
}

func (m *model) give(x home) api.Errno {
	if !m.is(x) {
		return api.ErrArg
	}
	i := slices.Index(m.homes, x)
	if i < 0 {
		return api.ErrNone
	}
	m.homes = slices.Delete(m.homes, i, i+1)
	return api.OK
}

// move lets actors go one by one, of which each gives its place back ahead of taking the other one, and comes to its new home behind all that are there.
func (m *model) move(x, y home, n int) api.Errno {
	switch {
	case !m.is(x) || !m.is(y) || n < 0:
		return api.ErrArg
	case m.count(x) < n:
		return api.ErrNone
	}
	then := m.copied()
	for range n {
		then.give(x)
		if then.take(y) != api.OK {
			return api.ErrQueue
		}
	}
	*m = *then
	return api.OK
}

// deed is a call on accounts: which one, with what.
type deed struct {
	what            string
	core, to, class int
	n               int
}

// both does a deed to accounts and to their model, and asks whether they tell the same: which error it was.
func both(t *testing.T, a *homes.Accounts, m *model, d deed) api.Errno {
	t.Helper()
	var e, f api.Errno
	x := home{d.core, d.class}
	switch d.what {
	case "take":
		e, f = a.Take(d.core, d.class), m.take(x)
	case "give":
		e, f = a.Give(d.core, d.class), m.give(x)
	case "move":
		e, f = a.Move(d.core, d.to, d.class, d.n), m.move(x, home{d.to, d.class}, d.n)
	case "count":
		if n := a.Count(d.core, d.class); n != m.count(x) {
			t.Fatalf("%v: %d, not %d", d, n, m.count(x))
		}
	case "room":
		var room row
		if m.is(home{d.core, 0}) {
			room = row{64 - m.count(home{d.core, 0}), 64 - m.count(home{d.core, 1}), 64 - m.count(home{d.core, 2})}
		}
		if got := a.Room(d.core); got != room {
			t.Fatalf("%v: %v, not %v", d, got, room)
		}
	default:
		core := 0
		if f = api.ErrArg; m.is(home{0, d.class}) {
			core, f = m.state().fewest(d.class), api.OK
		}
		var got int
		if got, e = a.Least(d.class); got != core {
			t.Fatalf("%v: %d, not %d", d, got, core)
		}
	}
	if e != f {
		t.Fatalf("%v: %d, not %d, of %v", d, e, f, m.state())
	}
	return e
}

// core is a drawn one: almost always one that there is.
func (d *draw) core(cores int) int {
	if d.below(25) == 0 {
		return d.of(append(wild(), cores, cores-1, cores+1))
	}
	return d.below(cores)
}

func (d *draw) class() int {
	if d.below(25) == 0 {
		return d.of(wild())
	}
	return d.below(3)
}

// n is a drawn one: a few, many, or one at an edge.
func (d *draw) n() int {
	switch d.below(12) {
	case 0:
		return d.of(wild())
	case 1, 2, 3:
		return d.below(66)
	}
	return d.below(9)
}

// deed is a drawn one. By the phase there are more of those that take, or of those that give, or of those that move.
func (d *draw) deed(cores, phase int) deed {
	kinds := [][]string{
		{"take", "take", "take", "move", "give", "count", "room", "least"},
		{"take", "take", "take", "take", "take", "take", "take", "move"},
		{"give", "give", "give", "take", "move", "count", "room", "least"},
		{"move", "move", "move", "move", "take", "give", "least"},
		{"give", "give", "give", "give", "give", "give", "move", "least"},
	}[phase%5]
	x := deed{kinds[d.below(len(kinds))], d.core(cores), d.core(cores), d.class(), d.n()}
	if d.below(20) == 0 {
		x.to = x.core
	}
	return x
}

// deeds are some of each kind, for accounts of two cores.
func deeds() []deed {
	return []deed{
		{"take", 0, 0, 0, 0}, {"take", 1, 0, 0, 0}, {"give", 0, 0, 0, 0}, {"give", 1, 0, 0, 0}, {"move", 0, 1, 0, 1}, {"move", 1, 0, 0, 2}, {"move", 0, 1, 0, 64}, {"move", 1, 1, 0, 1},
		{"take", 1, 0, 2, 0}, {"move", 1, 0, 2, 1}, {"take", 2, 0, 0, 0}, {"give", 0, 0, 3, 0}, {"move", 0, 1, 0, -1}, {"least", 0, 0, 0, 0},
	}
}

// All short rows of deeds, from accounts at and beside their ends on. Each row goes its own way from a copy.
func TestHo1ShortRowsOfDeeds(t *testing.T) {
	for _, s := range []state{alike(2, row{}), {{64, 0, 1}, {64, 5, 63}}, {{63, 0, 0}, {1, 9, 64}}, {{2, 64, 64}, {62, 64, 0}}} {
		everyRow(t, s.made(t), modelOf(s), deeds()[:8], 4)
		everyRow(t, s.made(t), modelOf(s), deeds(), 2)
	}
}

func everyRow(t *testing.T, a *homes.Accounts, m *model, ds []deed, left int) {
	s := m.state()
	holds(t, a, s)
	if left == 0 {
		return
	}
	for _, d := range ds {
		c, n := a.Copy(), m.copied()
		both(t, c, n, d)
		everyRow(t, c, n, ds, left-1)
	}
	holds(t, a, s)
}

// Scripts over accounts and their copies, drawn: calls on some, some that begin anew, or become a copy of others. Behind each call Ho4 is asked.
func TestHo4LongScripts(t *testing.T) {
	var d draw = 17
	var as []*homes.Accounts
	var ms []*model
	for _, s := range []state{alike(2, row{}), odd(3), odd(1), alike(16, row{})} {
		as, ms = append(as, s.made(t)), append(ms, modelOf(s))
	}
	count := map[string]int{}
	for n := range 40000 {
		i, j := d.below(4), d.below(4)
		switch d.below(250) {
		case 0:
			as[j], ms[j] = as[i].Copy(), ms[i].copied()
		case 1:
			l := states()
			s := l[d.below(len(l))]
			as[j], ms[j] = s.made(t), modelOf(s)
		default:
			x := d.deed(ms[i].cores, n/500)
			before := stateOf(as[i], ms[i].cores)
			e := both(t, as[i], ms[i], x)
			count[x.what+errText(e)]++
			wantHo4(t, as[i], before, x, e)
			takeAndGive(t, as[i], d.below(ms[i].cores), d.below(3))
		}
		if n%20 == 0 {
			for k := range as {
				holds(t, as[k], ms[k].state())
			}
		}
	}
	for _, what := range []string{"take", "take arg", "take full", "give", "give arg", "give none", "move", "move arg", "move none", "move full", "count", "room", "least", "least arg"} {
		if count[what] < 100 {
			t.Error("the scripts come too seldom to something:", what, count[what])
		}
	}
}

func errText(e api.Errno) string {
	switch e {
	case api.OK:
		return ""
	case api.ErrArg:
		return " arg"
	case api.ErrNone:
		return " none"
	case api.ErrQueue:
		return " full"
	}
	return " otherwise"
}
