package tie_test

import (
	"slices"
	"testing"

	"carousel/api"
	"carousel/tie"
)

// model is a second way to keep ties: all in one list, as they came, a link as it was asked for; what is told is looked for from the beginning and put in order by going over it again and again.
type model struct{ ties []api.Tie }

func modelFrom(l []api.Tie) *model { return &model{slices.Clone(l)} }

func (m *model) copied() *model { return modelFrom(m.ties) }

func good(p api.Pid) bool { return p.N > -1 && p.N < 256 && p.Gen > 0 && p.Gen <= api.MaxInt }

// place is where the link of two stands: -1, if there is none.
func (m *model) place(a, b api.Pid) int {
	return slices.IndexFunc(m.ties, func(y api.Tie) bool { return y == link(a, b) || y == link(b, a) })
}

func (m *model) link(a, b api.Pid) api.Errno {
	switch {
	case !good(a) || !good(b) || a == b:
		return api.ErrArg
	case m.place(a, b) >= 0:
		return api.OK
	case len(m.ties) == 1024:
		return api.ErrTies
	}
	m.ties = append(m.ties, link(a, b))
	return api.OK
}

func (m *model) unlink(a, b api.Pid) api.Errno {
	if !good(a) || !good(b) || a == b {
		return api.ErrArg
	}
	i := m.place(a, b)
	if i < 0 {
		return api.ErrNone
	}
	m.ties = slices.Delete(m.ties, i, i+1)
	return api.OK
}

// refPlace is where the monitor with a ref stands: -1, if there is none.
func (m *model) refPlace(ref int) int {
	return slices.IndexFunc(m.ties, func(y api.Tie) bool { return y.Ref == ref && ref != 0 })
}

func (m *model) monitor(ref int, a, b api.Pid) api.Errno {
	switch {
	case !good(a) || !good(b) || ref < 1 || ref > api.MaxInt || m.refPlace(ref) >= 0:
		return api.ErrArg
	case len(m.ties) == 1024:
		return api.ErrTies
	}
	m.ties = append(m.ties, monitor(ref, a, b))
	return api.OK
}

func (m *model) demon(ref int) api.Errno {
	i := m.refPlace(ref)
	if i < 0 {
		return api.ErrNone
	}
	m.ties = slices.Delete(m.ties, i, i+1)
	return api.OK
}

// tieAhead tells whether one tie is told ahead of another one.
func tieAhead(x, y api.Tie) bool {
	if x.Ref == y.Ref {
		return ahead(x.A, y.A) || x.A == y.A && ahead(x.B, y.B)
	}
	return x.Ref < y.Ref
}

func (m *model) all() []api.Tie {
	var l []api.Tie
	for _, y := range m.ties {
		if y.Ref == 0 && ahead(y.B, y.A) {
			y.A, y.B = y.B, y.A
		}
		i := len(l)
		for i > 0 && tieAhead(y, l[i-1]) {
			i--
		}
		l = slices.Insert(l, i, y)
	}
	return l
}

func (m *model) gone(a api.Pid) ([]api.Pid, []api.Tie) {
	l := m.all()
	m.ties = slices.DeleteFunc(m.ties, func(y api.Tie) bool { return y.A == a || y.B == a })
	return linked(l, a), told(l, a)
}

// mayBe tells whether a list is what All could tell, but for how long it is: the chapter's words, one by one.
func mayBe(l []api.Tie) bool {
	for i, y := range l {
		if !good(y.A) || !good(y.B) || y.Ref == 0 && !ahead(y.A, y.B) || y.Ref < 0 || y.Ref > api.MaxInt {
			return false
		}
		for _, x := range l[:i] {
			if x.Ref == 0 && y.Ref == 0 && !tieAhead(x, y) || y.Ref == 0 && x.Ref != 0 || y.Ref != 0 && x.Ref >= y.Ref {
				return false
			}
		}
	}
	return true
}

// deed is a call on ties: which one, with what.
type deed struct {
	what string
	ref  int
	a, b api.Pid
}

// both does a deed to ties and to their model, and asks whether they tell the same: which error it was.
func both(t *testing.T, x *tie.Ties, m *model, d deed) api.Errno {
	t.Helper()
	var e, f api.Errno
	switch d.what {
	case "link":
		e, f = x.Link(d.a, d.b), m.link(d.a, d.b)
	case "unlink":
		e, f = x.Unlink(d.a, d.b), m.unlink(d.a, d.b)
	case "monitor":
		e, f = x.Monitor(d.ref, d.a, d.b), m.monitor(d.ref, d.a, d.b)
	case "demon":
		e, f = x.Demon(d.ref), m.demon(d.ref)
	case "gone":
		who, ms := m.gone(d.a)
		wantGone(t, x, d.a, who, ms)
	default:
		l := m.all()
		wantLinks(t, x, d.a, linked(l, d.a)...)
		wantWatchers(t, x, d.a, watching(l, d.a)...)
	}
	if e != f {
		t.Fatalf("%v: %d, not %d, of %v", d, e, f, m.ties)
	}
	return e
}

// deeds are some of each kind.
func deeds() []deed {
	a, b, c := pid(0, 1), pid(1, 1), pid(0, 2)
	return []deed{
		{"link", 0, a, b}, {"link", 0, b, a}, {"monitor", 1, a, b}, {"monitor", 2, b, a}, {"monitor", 1, c, c}, {"unlink", 0, b, a}, {"demon", 1, a, a}, {"gone", 0, a, a},
		{"link", 0, c, a}, {"unlink", 0, a, c}, {"link", 0, a, a}, {"unlink", 0, pid(256, 1), a}, {"monitor", 0, a, b}, {"demon", 0, a, a}, {"demon", 2, a, a}, {"gone", 0, b, b}, {"gone", 0, c, c}, {"of", 0, a, a}, {"of", 0, b, b},
	}
}

// All short rows of deeds, from ties within and at their limits on. Each row goes its own way from a copy.
func TestTb3ShortRowsOfDeeds(t *testing.T) {
	everyRow(t, tie.New(), modelFrom(nil), deeds()[:10], 5)
	everyRow(t, tie.New(), modelFrom(nil), deeds(), 3)
	for _, l := range lists()[:16] {
		everyRow(t, load(t, l), modelFrom(l), deeds()[:10], 2)
	}
	for _, l := range [][]api.Tie{many(1023, 0), many(0, 1024), many(512, 511)} {
		everyRow(t, load(t, l), modelFrom(l), deeds()[:10], 1)
	}
}

func everyRow(t *testing.T, x *tie.Ties, m *model, ds []deed, left int) {
	holds(t, x, m.all())
	if left == 0 {
		return
	}
	for _, d := range ds {
		c, n := x.Copy(), m.copied()
		both(t, c, n, d)
		everyRow(t, c, n, ds, left-1)
	}
	holds(t, x, m.all())
}

// pid is a drawn one: out of so few that they meet, or almost one of them.
func (d *draw) pid() api.Pid {
	p := pid(d.below(24), 1+d.below(2))
	switch d.below(40) {
	case 0:
		l := pidsThatMayNotBe()
		p = l[d.below(len(l))]
	case 1:
		l := pidsThatMayBe()
		p = l[d.below(len(l))]
	case 2:
		p.N = 255 - p.N
	}
	return p
}

// ref is a drawn one: out of so few that they meet, or one at an edge.
func (d *draw) ref() int {
	if d.below(40) == 0 {
		l := append(refsThatMayNotBe(), api.MaxInt-1, api.MaxInt, 1<<32)
		return l[d.below(len(l))]
	}
	return 1 + d.below(1500)
}

// deed is a drawn one. By the phase there are more of those that make ties, or of those that end them.
func (d *draw) deed(phase int) deed {
	kinds := [][]string{
		{"link", "link", "monitor", "link", "monitor", "of", "unlink", "link", "monitor", "demon"},
		{"monitor", "monitor", "monitor", "link", "monitor", "monitor", "of", "demon", "unlink"},
		{"unlink", "demon", "unlink", "demon", "link", "monitor", "of", "demon"},
		{"gone", "link", "link", "monitor", "monitor", "link", "monitor", "unlink", "demon", "of"},
		{"link", "link", "link", "link", "link", "unlink", "of", "monitor"},
	}[phase%5]
	x := deed{kinds[d.below(len(kinds))], d.ref(), d.pid(), d.pid()}
	if d.below(60) == 0 {
		x.b = x.a
	}
	return x
}

// list is a drawn one that All may tell: of some of a longer one's.
func (d *draw) list() []api.Tie {
	l := [][]api.Tie{many(30, 30), many(1024, 0), many(0, 1024), many(512, 512), many(900, 124), star(pid(3, 5))}[d.below(6)]
	some := 1 + d.below(5)
	return slices.DeleteFunc(slices.Clone(l), func(api.Tie) bool { return d.below(some) > 0 })
}

// Scripts over more than one of ties, drawn: calls on one of them, one that begins anew, that becomes a copy of another one, or is loaded; what they tell is written over, and changes none of them.
func TestTb3LongScripts(t *testing.T) {
	var d draw = 5
	var xs []*tie.Ties
	var ms []*model
	for range 4 {
		xs, ms = append(xs, tie.New()), append(ms, modelFrom(nil))
	}
	count := map[string]int{}
	for n := range 60000 {
		i, j := d.below(4), d.below(4)
		switch d.below(400) {
		case 0:
			xs[j], ms[j] = xs[i].Copy(), ms[i].copied()
		case 1:
			xs[j], ms[j] = load(t, xs[i].All()), ms[i].copied()
		case 2:
			spoil(xs[i].All(), monitor(9, pid(9, 9), pid(9, 9)))
		case 3:
			if l := d.list(); d.below(3) == 0 {
				xs[j], ms[j] = load(t, l), modelFrom(l)
			}
		default:
			x := d.deed(n / 4000)
			count[x.what+errText(both(t, xs[i], ms[i], x))]++
		}
		if n%200 == 0 {
			for k := range xs {
				holds(t, xs[k], ms[k].all())
			}
		}
	}
	for _, what := range []string{"link", "link arg", "link full", "unlink", "unlink arg", "unlink none", "monitor", "monitor arg", "monitor full", "demon", "demon none", "gone", "of"} {
		if count[what] < 300 {
			t.Error("the scripts come too seldom to something:", what, count[what])
		}
	}
}

func errText(e api.Errno) string {
	switch e {
	case api.OK:
		return ""
	case api.ErrArg:
		return " arg"
	case api.ErrNone:
		return " none"
	case api.ErrTies:
		return " full"
	}
	return " otherwise"
}
