package core_test

import (
	"slices"
	"testing"

	"carousel/api"
	"carousel/core"
)

// places are how many actors the scripts know: more than a core has room for, so that all queues can be full.
const places = 250

// class is a drawn one: almost always one that there is.
func (d *draw) class() int {
	if d.below(30) == 0 {
		return d.of(wild())
	}
	return d.below(3)
}

func (d *draw) pid() api.Pid { return pid(d.below(places), 1+d.below(20)/19) }

// n is a drawn one: a few, many, or one at an edge.
func (d *draw) n() int {
	switch d.below(12) {
	case 0:
		return d.of(wild())
	case 1, 2:
		return d.below(66)
	}
	return d.below(5)
}

// list are some drawn ones: of those who do not stand in the core, for the most part.
func (d *draw) list(c *core.Core) list {
	n := d.of([]int{0, 1, 2, 3, 4, 5, 8, 20, 64, 65})
	var l list
	for range n {
		p := d.pid()
		for tries := 0; tries < 300 && (stands(c, p) || slices.ContainsFunc(l, func(x api.Entry) bool { return x.Pid == p })); tries++ {
			p = pid((p.N+1)%places, p.Gen)
		}
		l = append(l, api.Entry{Pid: p, Pinned: d.below(2) == 0})
	}
	if n > 0 && d.below(8) == 0 {
		l[d.below(n)].Pid = d.pid()
	}
	if n > 0 && d.below(16) == 0 {
		l[d.below(n)] = l[d.below(n)]
	}
	return l
}

func stands(c *core.Core, p api.Pid) bool {
	_, _, e := c.Find(p)
	return e == api.OK
}

// deed is a drawn one. By the phase there are more of those by whom actors come, or of those by whom they go.
func (d *draw) deed(c *core.Core, phase int) deed {
	kinds := [][]string{
		{"push", "push", "push", "pick", "drop", "cut", "join", "find", "queue"},
		{"push", "push", "push", "push", "push", "push", "push", "join", "join"},
		{"pick", "pick", "pick", "pick", "drop", "push", "push", "cut", "find"},
		{"cut", "join", "cut", "join", "push", "pick", "queue", "drop", "join"},
		{"pick", "pick", "drop", "drop", "drop", "cut", "cut", "push", "join"},
	}[phase%5]
	x := deed{what: kinds[d.below(len(kinds))], class: d.class(), n: d.n(), p: d.pid()}
	if x.what == "join" {
		x.l = d.list(c)
	}
	return x
}

// script is a core, its model, and of each actor that stands in it when it came.
type script struct {
	c    *core.Core
	m    *model
	came map[api.Pid]int
}

func begin(t *testing.T, s state) script {
	x := script{s.load(t), modelOf(s), map[api.Pid]int{}}
	for i, y := range s.all() {
		x.came[y.Pid] = i - 1000
	}
	return x
}

func (x script) copied() script {
	came := map[api.Pid]int{}
	for p, n := range x.came {
		came[p] = n
	}
	return script{x.c.Copy(), x.m.copied(), came}
}

// do does the script's deed of a number, and asks for what holds behind each call.
func (x script) do(t *testing.T, d deed, n int) api.Errno {
	t.Helper()
	before := stateOf(x.c, nil)
	e := both(t, x.c, x.m, d)
	now := stateOf(x.c, nil)
	if d.what == "push" || d.what == "join" {
		were := before.pids()
		for i, p := range now.pids() {
			if !slices.Contains(were, p) {
				x.came[p] = n*1000 + i
			}
		}
	}
	wantP185(t, now, x.came)
	wantP186(t, now)
	if d.what == "pick" && e == api.OK {
		wantPickedFirst(t, before, now)
	}
	if e != api.OK && (!same(now.all(), before.all()) || now.hand != before.hand) {
		t.Fatalf("%v told %d, and changed %v into %v", d, e, before, now)
	}
	return e
}

// wantP185 asks whether of each class those stand ahead who came ahead.
func wantP185(t *testing.T, s state, came map[api.Pid]int) {
	t.Helper()
	for class, l := range s.queues {
		for i := 1; i < len(l); i++ {
			if came[l[i-1].Pid] >= came[l[i].Pid] {
				t.Fatalf("of class %d %v stands ahead of %v, who came first", class, l[i-1], l[i])
			}
		}
	}
}

// wantP186 asks whether nobody stands twice.
func wantP186(t *testing.T, s state) {
	t.Helper()
	met := map[api.Pid]int{}
	for _, p := range s.pids() {
		if met[p]++; met[p] > 1 {
			t.Fatalf("%v stands twice: %v", p, s)
		}
	}
}

// wantPickedFirst asks whether just one who stood first went, and nobody else moved but behind it.
func wantPickedFirst(t *testing.T, before, now state) {
	t.Helper()
	gone := 0
	for class, l := range before.queues {
		if same(l, now.queues[class]) {
			continue
		}
		if gone++; !same(l[1:], now.queues[class]) {
			t.Fatalf("Pick made %v of %v", now, before)
		}
	}
	if gone != 1 {
		t.Fatalf("Pick made %v of %v", now, before)
	}
}

// cutAndJoin cuts some of a copy and joins them again: the queues are as they were, but for the pins.
func cutAndJoin(t *testing.T, c *core.Core, class, n int) {
	t.Helper()
	s := stateOf(c, nil)
	other := c.Copy()
	l, e := other.Cut(class, n)
	if e != api.OK {
		t.Fatalf("Cut(%d, %d) of %v: %d", class, n, s, e)
	}
	wantJoin(t, other, class, l, api.OK)
	q := s.queues[class]
	holds(t, other, s.with(class, joined(q[:len(q)-n], allPinned(l))))
}

// Scripts over cores and their copies, drawn: calls on some, some that begin anew, or become a copy of others. Behind each call P18.5 and P18.6 are asked.
func TestP185AndP186LongScripts(t *testing.T) {
	var d draw = 18
	var l []script
	for _, s := range []state{at("012", 0, "", "", ""), at("0102010", 3, "b a A", "", "B* z y*"), {longest(), 63, lists{}}, {digits("2100"), 1, lists{many(64, 0), many(64, 64), many(64, 128)}}} {
		l = append(l, begin(t, s))
	}
	count := map[string]int{}
	for n := range 30000 {
		i, j := d.below(4), d.below(4)
		switch d.below(300) {
		case 0:
			l[j] = l[i].copied()
		case 1:
			ss := states()
			l[j] = begin(t, ss[d.below(len(ss))])
		case 2:
			l[j] = begin(t, l[i].m.state())
		default:
			x := d.deed(l[i].c, n/400)
			e := l[i].do(t, x, n)
			count[x.what+errText(e)]++
		}
		class := d.below(3)
		cutAndJoin(t, l[i].c, class, d.below(len(l[i].c.Queue(class))+1))
		if n%25 == 0 {
			for _, x := range l {
				knows(t, x.c, x.m.state())
			}
		}
	}
	for _, what := range []string{"push", "push arg", "push full", "pick", "pick none", "drop", "drop none", "find", "find none", "cut", "cut arg", "cut none", "join", "join arg", "join full", "queue"} {
		if count[what] < 100 {
			t.Error("the scripts come too seldom to something:", what, count[what])
		}
	}
}

func errText(e api.Errno) string {
	switch e {
	case api.OK:
		return ""
	case api.ErrArg:
		return " arg"
	case api.ErrNone:
		return " none"
	case api.ErrFull:
		return " full"
	}
	return " otherwise"
}
