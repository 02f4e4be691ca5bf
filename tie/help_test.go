package tie_test

import (
	"slices"
	"testing"

	"carousel/api"
	"carousel/tie"
)

const (
	least = -1 << 63
	most  = 1<<63 - 1
)

func pid(n, gen int) api.Pid { return api.Pid{N: n, Gen: gen} }

// link is a link as All tells it, if a stands ahead of b.
func link(a, b api.Pid) api.Tie { return api.Tie{A: a, B: b} }

func monitor(ref int, a, b api.Pid) api.Tie { return api.Tie{Ref: ref, A: a, B: b} }

// ahead tells whether one pid stands ahead of another one.
func ahead(a, b api.Pid) bool { return a.N < b.N || a.N == b.N && a.Gen < b.Gen }

// folk are so many pids, in order: two a place.
func folk(n int) []api.Pid {
	var l []api.Pid
	for i := range n {
		l = append(l, pid(i/2, 1+i%2))
	}
	return l
}

// many are so many links and so many monitors, as All tells them.
func many(links, monitors int) []api.Tie {
	var l []api.Tie
	who := folk(50)
	for i, a := range who {
		for _, b := range who[i+1:] {
			if len(l) < links {
				l = append(l, link(a, b))
			}
		}
	}
	for i := range monitors {
		l = append(l, monitor(3*i+2, who[i*7%50], who[i*i%50]))
	}
	return l
}

// star are one's links with many others, who watch it, and some of whom it watches.
func star(a api.Pid) []api.Tie {
	var l, monitors []api.Tie
	for n := range 256 {
		b := pid(n, 5)
		if ahead(b, a) {
			l = append(l, link(b, a))
		} else if ahead(a, b) {
			l = append(l, link(a, b))
		}
		monitors = append(monitors, monitor(2*n+1, b, a))
		if n%3 == 0 {
			monitors = append(monitors, monitor(2*n+2, a, b))
		}
	}
	return append(l, monitors...)
}

// lists are what All may tell: nothing, links alone, monitors alone, both, at the edges of pids and refs, up to the limit.
func lists() [][]api.Tie {
	const end = api.MaxInt
	a, b, c, d := pid(0, 1), pid(0, end), pid(255, 1), pid(255, end)
	return [][]api.Tie{
		nil, {link(a, b)}, {link(a, d)}, {link(c, d)}, {monitor(1, a, b)}, {monitor(end, b, a)}, {monitor(7, a, a)}, {monitor(1, d, d), monitor(end, d, d)},
		{link(a, b), link(a, c), link(a, d), link(b, c), link(b, d), link(c, d)},
		{link(a, c), link(b, c), link(c, d), monitor(1, a, c), monitor(2, c, a), monitor(3, c, c), monitor(end-1, b, c), monitor(end, d, c)},
		{link(pid(3, 2), pid(3, 10)), link(pid(3, 10), pid(10, 1)), monitor(4, pid(3, 10), pid(3, 2)), monitor(10, pid(3, 2), pid(3, 10)), monitor(33, pid(3, 10), pid(3, 2))},
		{monitor(5, a, b), monitor(6, b, a), monitor(8, a, b), monitor(9, a, b)},
		star(pid(100, 5)), star(pid(100, 4)), star(pid(0, 5)), star(pid(255, 6)),
		many(5, 0), many(0, 5), many(20, 20), many(1023, 0), many(1024, 0), many(0, 1023), many(0, 1024), many(512, 511), many(512, 512), many(1, 1023), many(1023, 1), many(1022, 1),
	}
}

// pidsThatMayNotBe are such as no tie may have.
func pidsThatMayNotBe() []api.Pid {
	l := []api.Pid{{}}
	for _, n := range []int{least, api.MinInt - 1, api.MinInt, -1 << 32, -256, -2, -1, 0, 1, 255, 256, 257, 1 << 16, 1 << 32, 1<<32 + 1, api.MaxInt, api.MaxInt + 1, most} {
		for _, gen := range []int{least, api.MinInt - 1, api.MinInt, -1 << 32, -1, 0, 1, 2, api.MaxInt, api.MaxInt + 1, most} {
			if n < 0 || n > 255 || gen < 1 || gen > api.MaxInt {
				l = append(l, pid(n, gen))
			}
		}
	}
	return l
}

// pidsThatMayBe are such at the edges, and some between.
func pidsThatMayBe() []api.Pid {
	var l []api.Pid
	for _, n := range []int{0, 1, 7, 254, 255} {
		for _, gen := range []int{1, 2, 1 << 32, api.MaxInt - 1, api.MaxInt} {
			l = append(l, pid(n, gen))
		}
	}
	return l
}

// refsThatMayNotBe are such as no monitor may have.
func refsThatMayNotBe() []int {
	return []int{least, api.MinInt - 1, api.MinInt, -1 << 32, -2, -1, 0, api.MaxInt + 1, api.MaxInt + 2, most}
}

func load(t *testing.T, l []api.Tie) *tie.Ties {
	t.Helper()
	x, e := tie.Load(l)
	if e != api.OK || x == nil {
		t.Fatalf("Load(%v): %d", l, e)
	}
	return x
}

// wantNoLoad asks for an error, and for no ties.
func wantNoLoad(t *testing.T, l []api.Tie, f api.Errno) {
	t.Helper()
	if x, e := tie.Load(l); x != nil || e != f {
		t.Fatalf("Load(%v): %v, %d, not %d", l, x, e, f)
	}
}

// linked are those that one is linked with, by a list of All: as that stands in order, those that stand ahead of it come first by themselves.
func linked(l []api.Tie, a api.Pid) []api.Pid {
	var who []api.Pid
	for _, x := range l {
		if x.Ref == 0 && x.A == a {
			who = append(who, x.B)
		}
		if x.Ref == 0 && x.B == a {
			who = append(who, x.A)
		}
	}
	return who
}

// watching are the monitors of one, by a list of All.
func watching(l []api.Tie, b api.Pid) []api.Tie {
	var ms []api.Tie
	for _, x := range l {
		if x.Ref != 0 && x.B == b {
			ms = append(ms, x)
		}
	}
	return ms
}

// without is a list of All without all that has to do with one.
func without(l []api.Tie, a api.Pid) []api.Tie {
	return slices.DeleteFunc(slices.Clone(l), func(x api.Tie) bool { return x.A == a || x.B == a })
}

// told are the monitors that Gone tells: those of one, but for its own.
func told(l []api.Tie, a api.Pid) []api.Tie {
	return slices.DeleteFunc(watching(l, a), func(x api.Tie) bool { return x.A == a })
}

// everybody are all that have to do with a list's ties, none twice, and those that are like them: of the places beside theirs, and ahead of and behind them at their own.
func everybody(l []api.Tie) []api.Pid {
	who := []api.Pid{{}, pid(0, 1), pid(255, api.MaxInt), pid(256, 1), pid(-1, 1)}
	for _, x := range l {
		for _, p := range []api.Pid{x.A, x.B} {
			who = append(who, p, pid(p.N+1, p.Gen), pid(p.N-1, p.Gen), pid(p.N, p.Gen+1), pid(p.N, p.Gen-1), pid(p.Gen, p.N))
		}
	}
	slices.SortFunc(who, func(a, b api.Pid) int {
		if ahead(a, b) {
			return -1
		}
		return 1
	})
	return slices.Compact(who)
}

// holds asks of ties for all of them.
func holds(t *testing.T, x *tie.Ties, l []api.Tie) {
	t.Helper()
	if now := x.All(); !slices.Equal(now, l) {
		t.Fatalf("All: %v, not %v", now, l)
	}
}

// knows asks, too, what is told of each who has to do with them, and of some who have not.
func knows(t *testing.T, x *tie.Ties, l []api.Tie) {
	t.Helper()
	holds(t, x, l)
	for _, p := range everybody(l) {
		wantLinks(t, x, p, linked(l, p)...)
		wantWatchers(t, x, p, watching(l, p)...)
	}
}

func want(t *testing.T, what string, got, want api.Errno) {
	t.Helper()
	if got != want {
		t.Fatalf("%s: %d, not %d", what, got, want)
	}
}

func wantLink(t *testing.T, x *tie.Ties, a, b api.Pid, f api.Errno) {
	t.Helper()
	if e := x.Link(a, b); e != f {
		t.Fatalf("Link(%v, %v): %d, not %d", a, b, e, f)
	}
}

func wantUnlink(t *testing.T, x *tie.Ties, a, b api.Pid, f api.Errno) {
	t.Helper()
	if e := x.Unlink(a, b); e != f {
		t.Fatalf("Unlink(%v, %v): %d, not %d", a, b, e, f)
	}
}

func wantMonitor(t *testing.T, x *tie.Ties, ref int, a, b api.Pid, f api.Errno) {
	t.Helper()
	if e := x.Monitor(ref, a, b); e != f {
		t.Fatalf("Monitor(%d, %v, %v): %d, not %d", ref, a, b, e, f)
	}
}

func wantDemon(t *testing.T, x *tie.Ties, ref int, f api.Errno) {
	t.Helper()
	if e := x.Demon(ref); e != f {
		t.Fatalf("Demon(%d): %d, not %d", ref, e, f)
	}
}

func wantLinks(t *testing.T, x *tie.Ties, a api.Pid, l ...api.Pid) {
	t.Helper()
	if got := x.Links(a); !slices.Equal(got, l) {
		t.Fatalf("Links(%v): %v, not %v", a, got, l)
	}
}

func wantWatchers(t *testing.T, x *tie.Ties, b api.Pid, l ...api.Tie) {
	t.Helper()
	if got := x.Watchers(b); !slices.Equal(got, l) {
		t.Fatalf("Watchers(%v): %v, not %v", b, got, l)
	}
}

func wantGone(t *testing.T, x *tie.Ties, a api.Pid, l []api.Pid, ms []api.Tie) {
	t.Helper()
	if who, got := x.Gone(a); !slices.Equal(who, l) || !slices.Equal(got, ms) {
		t.Fatalf("Gone(%v): %v, %v, not %v, %v", a, who, got, l, ms)
	}
}

// put makes the ties of a list, one by one.
func put(t *testing.T, x *tie.Ties, l ...api.Tie) {
	t.Helper()
	for _, y := range l {
		if y.Ref == 0 {
			wantLink(t, x, y.A, y.B, api.OK)
		} else {
			wantMonitor(t, x, y.Ref, y.A, y.B, api.OK)
		}
	}
}

// spoil writes over all that stands in a list, and in the room behind its end, and appends to it.
func spoil[T any](l []T, by T) {
	for _, l := range [][]T{l, append(l, by)} {
		l = l[:cap(l)]
		for i := range l {
			l[i] = by
		}
	}
}

// roomy is a list with room behind its end, with something there.
func roomy[T any](l []T, behind ...T) []T { return slices.Concat(l, behind)[:len(l)] }

// draw are numbers by a fixed rule.
type draw uint64

func (d *draw) below(n int) int {
	*d = *d*6364136223846793005 + 1442695040888963407
	return int(*d>>33) % n
}

// mixed is a list in another order, drawn.
func mixed[T any](d *draw, l []T) []T {
	l = slices.Clone(l)
	for i := len(l) - 1; i > 0; i-- {
		k := d.below(i + 1)
		l[i], l[k] = l[k], l[i]
	}
	return l
}
