package core_test

import (
	"slices"
	"testing"

	"carousel/api"
	"carousel/core"
)

// actor is one who stands somewhere.
type actor struct {
	class int
	entry api.Entry
}

// model is a second way to keep a core: all actors in one row, in the order in which they came, whatever their class; and how many were picked, in place of a hand.
type model struct {
	slots  []int
	picked int
	row    []actor
}

func modelOf(s state) *model {
	m := &model{slots: slices.Clone(s.slots), picked: s.hand}
	for class := range s.queues {
		m.add(class, s.queues[class])
	}
	return m
}

func (m *model) add(class int, l list) {
	for _, x := range l {
		m.row = append(m.row, actor{class, x})
	}
}

func (m *model) copied() *model {
	return &model{slices.Clone(m.slots), m.picked, slices.Clone(m.row)}
}

func (m *model) hand() int { return m.picked % len(m.slots) }

func (m *model) queue(class int) list {
	var l list
	for _, x := range m.row {
		if x.class == class {
			l = append(l, x.entry)
		}
	}
	return l
}

func (m *model) state() state {
	return state{slices.Clone(m.slots), m.hand(), lists{m.queue(0), m.queue(1), m.queue(2)}}
}

func isClass(class int) bool {
	return slices.Contains([]int{api.High, api.Normal, api.Low}, class)
}

// place is where an actor stands in the row; -1, if it does not.
func (m *model) place(p api.Pid) int {
	return slices.IndexFunc(m.row, func(x actor) bool { return x.entry.Pid == p })
}

func (m *model) find(p api.Pid) (class, at int, e api.Errno) {
	i := m.place(p)
	if i < 0 {
		return 0, 0, api.ErrNone
	}
	class = m.row[i].class
	ahead := model{row: m.row[:i]}
	return class, len(ahead.queue(class)), api.OK
}

func (m *model) leave(i int) { m.row = slices.Delete(m.row, i, i+1) }

func (m *model) drop(p api.Pid) (class, at int, e api.Errno) {
	if class, at, e = m.find(p); e == api.OK {
		m.leave(m.place(p))
	}
	return class, at, e
}

func (m *model) push(class int, p api.Pid) api.Errno {
	switch {
	case !isClass(class) || m.place(p) >= 0:
		return api.ErrArg
	case len(m.queue(class)) == 64:
		return api.ErrFull
	}
	m.add(class, list{{Pid: p}})
	return api.OK
}

func (m *model) pick() (x api.Entry, class int, e api.Errno) {
	for _, class := range [][]int{{0, 1, 2}, {1, 2, 0}, {2, 0, 1}}[m.slots[m.hand()]] {
		if i := slices.IndexFunc(m.row, func(x actor) bool { return x.class == class }); i >= 0 {
			x = m.row[i].entry
			m.leave(i)
			m.picked++
			return x, class, api.OK
		}
	}
	return api.Entry{}, 0, api.ErrNone
}

// cut takes them one by one, each time whoever of the class came last.
func (m *model) cut(class, n int) (list, api.Errno) {
	switch {
	case !isClass(class) || n < 0:
		return nil, api.ErrArg
	case len(m.queue(class)) < n:
		return nil, api.ErrNone
	}
	var l list
	for i := len(m.row) - 1; len(l) < n; i-- {
		if m.row[i].class == class {
			l = append(l, m.row[i].entry)
			m.leave(i)
		}
	}
	slices.Reverse(l)
	return l, api.OK
}

// join lets them come one by one, and takes it back, if one of them is refused.
func (m *model) join(class int, l list) api.Errno {
	for i, x := range l {
		if m.place(x.Pid) >= 0 || slices.ContainsFunc(l[:i], func(y api.Entry) bool { return y.Pid == x.Pid }) {
			return api.ErrArg
		}
	}
	if !isClass(class) {
		return api.ErrArg
	}
	then := m.copied()
	for _, x := range l {
		if e := then.push(class, x.Pid); e != api.OK {
			return e
		}
		then.row[len(then.row)-1].entry.Pinned = true
	}
	*m = *then
	return api.OK
}

// deed is a call on a core: which one, with what.
type deed struct {
	what  string
	class int
	n     int
	p     api.Pid
	l     list
}

// both does a deed to a core and to its model, and asks whether they tell the same: which error it was.
func both(t *testing.T, c *core.Core, m *model, d deed) api.Errno {
	t.Helper()
	var e, f api.Errno
	ok := true
	switch d.what {
	case "push":
		e, f = c.Push(d.class, d.p), m.push(d.class, d.p)
	case "pick":
		x, class, got := c.Pick()
		y, k, wanted := m.pick()
		ok, e, f = x == y && class == k, got, wanted
	case "drop":
		class, at, got := c.Drop(d.p)
		k, i, wanted := m.drop(d.p)
		ok, e, f = class == k && at == i, got, wanted
	case "find":
		class, at, got := c.Find(d.p)
		k, i, wanted := m.find(d.p)
		ok, e, f = class == k && at == i, got, wanted
	case "cut":
		l, got := c.Cut(d.class, d.n)
		q, wanted := m.cut(d.class, d.n)
		ok, e, f = same(l, q), got, wanted
	case "join":
		e, f = c.Join(d.class, d.l), m.join(d.class, d.l)
	case "queue":
		ok = same(c.Queue(d.class), m.queue(d.class))
	}
	if !ok || e != f {
		t.Fatalf("%v: %d, not %d, or something else than the model; there is %s", d, e, f, show(c))
	}
	return e
}

// deeds are some of each kind, for cores with few actors.
func deeds() []deed {
	a, b, c, d := who('a'), who('b'), who('c'), who('d')
	return []deed{
		{what: "push", class: 0, p: a}, {what: "push", class: 1, p: b}, {what: "push", class: 0, p: c}, {what: "pick"}, {what: "drop", p: a}, {what: "cut", class: 0, n: 1}, {what: "join", class: 0, l: entries("d b")}, {what: "drop", p: b},
		{what: "push", class: 2, p: c}, {what: "push", class: 2, p: a}, {what: "cut", class: 1, n: 1}, {what: "cut", class: 0, n: 2}, {what: "cut", class: 2, n: 0}, {what: "join", class: 2, l: entries("a c*")}, {what: "join", class: 1, l: entries("A")},
		{what: "join", class: 1, l: entries("B b B")}, {what: "join", class: 1}, {what: "drop", p: d}, {what: "drop", p: who('A')}, {what: "find", p: c}, {what: "queue", class: 0}, {what: "push", class: 3, p: d}, {what: "cut", class: -1, n: 0}, {what: "cut", class: 0, n: -1}, {what: "join", class: 3, l: entries("z")},
	}
}

// All short rows of deeds. Each row goes its own way from a copy.
func TestP181ShortRowsOfDeeds(t *testing.T) {
	for _, s := range []state{at("012", 0, "", "", ""), at("2010", 3, "a", "b*", ""), at("0120", 2, "c* a", "", "d b")} {
		everyRow(t, s.load(t), modelOf(s), deeds()[:8], 4)
		everyRow(t, s.load(t), modelOf(s), deeds(), 2)
	}
	full := state{digits("012"), 1, lists{append(many(61, 100), entries("c")...), append(many(63, 200), entries("A*")...), append(many(62, 300), entries("a b")...)}}
	everyRow(t, full.load(t), modelOf(full), deeds(), 2)
}

func everyRow(t *testing.T, c *core.Core, m *model, ds []deed, left int) {
	s := m.state()
	holds(t, c, s)
	if left == 0 {
		return
	}
	for _, d := range ds {
		other, n := c.Copy(), m.copied()
		both(t, other, n, d)
		everyRow(t, other, n, ds, left-1)
	}
	knows(t, c, s)
}
