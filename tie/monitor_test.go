package tie_test

import (
	"slices"
	"testing"

	"carousel/api"
	"carousel/tie"
)

// Whoever may be watches whoever may be, itself, too, by each ref that may be.
func TestTb2MonitorOfWhoMayBe(t *testing.T) {
	who := pidsThatMayBe()
	for _, a := range who {
		for _, b := range who {
			x := tie.New()
			for _, ref := range []int{api.MaxInt, 1, 1 << 32} {
				wantMonitor(t, x, ref, a, b, api.OK)
				wantMonitor(t, x, ref, a, b, api.ErrArg)
				wantMonitor(t, x, ref, b, a, api.ErrArg)
			}
			knows(t, x, []api.Tie{monitor(1, a, b), monitor(1<<32, a, b), monitor(api.MaxInt, a, b)})
			wantDemon(t, x, 1<<32, api.OK)
			knows(t, x, []api.Tie{monitor(1, a, b), monitor(api.MaxInt, a, b)})
		}
	}
}

// Who may not be is refused in either place, with room and without.
func TestTb2MonitorOfWhoMayNotBe(t *testing.T) {
	for _, l := range [][]api.Tie{nil, {link(pid(0, 1), pid(1, 1)), monitor(1, pid(0, 1), pid(1, 1))}, many(1024, 0), many(0, 1024)} {
		x := load(t, l)
		for _, p := range pidsThatMayNotBe() {
			for _, b := range []api.Pid{p, pid(0, 1), pid(1, 1), pid(255, api.MaxInt), {}, pid(-1, 1)} {
				for _, ref := range []int{-1, 0, 1, 2, 9, api.MaxInt, api.MaxInt + 1} {
					wantMonitor(t, x, ref, p, b, api.ErrArg)
					wantMonitor(t, x, ref, b, p, api.ErrArg)
				}
			}
			wantWatchers(t, x, p)
		}
		knows(t, x, l)
	}
}

func TestTb2RefsThatMayNotBe(t *testing.T) {
	for _, l := range lists() {
		x := load(t, l)
		for _, ref := range refsThatMayNotBe() {
			wantMonitor(t, x, ref, pid(0, 1), pid(1, 1), api.ErrArg)
			wantMonitor(t, x, ref, pid(0, 1), pid(0, 1), api.ErrArg)
			wantDemon(t, x, ref, api.ErrNone)
		}
		holds(t, x, l)
	}
}

// A ref that a monitor has is refused, for whomever, with room and without; one that was given up comes again, for others.
func TestTb2RefsThatAreTaken(t *testing.T) {
	a, b, c := pid(1, 1), pid(2, 1), pid(3, 1)
	for _, ref := range []int{1, 2, 77, api.MaxInt - 1, api.MaxInt} {
		x := tie.New()
		wantMonitor(t, x, ref, a, b, api.OK)
		for _, two := range [][2]api.Pid{{a, b}, {b, a}, {a, c}, {c, b}, {c, c}} {
			wantMonitor(t, x, ref, two[0], two[1], api.ErrArg)
		}
		knows(t, x, []api.Tie{monitor(ref, a, b)})
		wantDemon(t, x, ref, api.OK)
		wantDemon(t, x, ref, api.ErrNone)
		knows(t, x, nil)
		wantMonitor(t, x, ref, b, c, api.OK)
		knows(t, x, []api.Tie{monitor(ref, b, c)})
		wantGone(t, x, c, nil, []api.Tie{monitor(ref, b, c)})
		wantDemon(t, x, ref, api.ErrNone)
		wantMonitor(t, x, ref, c, a, api.OK)
		wantGone(t, x, c, nil, nil)
		wantMonitor(t, x, ref, a, a, api.OK)
		knows(t, x, []api.Tie{monitor(ref, a, a)})
	}
}

// Two monitors of the same two, one each way, and more than one the same way, are monitors of their own.
func TestTb2TheSameTwo(t *testing.T) {
	a, b := pid(1, 2), pid(1, 1)
	x := tie.New()
	put(t, x, monitor(4, a, b), monitor(2, b, a), monitor(9, a, b), monitor(1, a, a), monitor(3, b, b))
	l := []api.Tie{monitor(1, a, a), monitor(2, b, a), monitor(3, b, b), monitor(4, a, b), monitor(9, a, b)}
	knows(t, x, l)
	wantWatchers(t, x, b, l[2:]...)
	wantWatchers(t, x, a, l[:2]...)
	wantDemon(t, x, 4, api.OK)
	wantWatchers(t, x, b, l[2], l[4])
	wantWatchers(t, x, a, l[:2]...)
	wantDemon(t, x, 1, api.OK)
	knows(t, x, []api.Tie{l[1], l[2], l[4]})
}

// Watchers are told by their refs, as numbers, whatever order they came in.
func TestTb2WatchersInOrder(t *testing.T) {
	var d draw = 4
	refs := []int{1, 2, 3, 9, 10, 11, 99, 100, 1 << 16, 1 << 32, 1<<32 + 1, api.MaxInt - 1, api.MaxInt}
	for range 200 {
		x := tie.New()
		b := pid(d.below(256), 1+d.below(3))
		other := pid((b.N+1)%256, b.Gen)
		var l []api.Tie
		for _, ref := range refs {
			l = append(l, monitor(ref, pid(d.below(256), 1+d.below(3)), b))
		}
		order := mixed(&d, l)
		for i, m := range order {
			put(t, x, m, monitor(1000+i, b, other))
		}
		wantWatchers(t, x, b, l...)
		for _, m := range order[:6] {
			wantDemon(t, x, m.Ref, api.OK)
			l = slices.DeleteFunc(slices.Clone(l), func(y api.Tie) bool { return y == m })
			wantWatchers(t, x, b, l...)
		}
		if n := len(x.Watchers(other)); n != len(refs) {
			t.Fatal("watchers of the other one:", n)
		}
	}
}

// Who is like one who is watched, by N alone or Gen alone, is not; nor is who watches.
func TestTb2WatchersOfWhoIsAlike(t *testing.T) {
	x := tie.New()
	m := monitor(1, pid(9, 9), pid(3, 4))
	put(t, x, m)
	for _, p := range []api.Pid{pid(3, 3), pid(3, 5), pid(2, 4), pid(4, 4), pid(4, 3), pid(9, 9), pid(3, -4), pid(3+1<<32, 4), {}} {
		wantWatchers(t, x, p)
	}
	wantWatchers(t, x, pid(3, 4), m)
}

// At the limit: one monitor more, if there are MaxTies - 1 ties; none, if there are MaxTies, of whatever kind. What may not be is told first.
func TestTb2MonitorAtTheLimit(t *testing.T) {
	a, b := pid(200, 1), pid(201, 1)
	for _, n := range []int{0, 1, 500, 1022, 1023} {
		l := many(n, 1023-n)
		x := load(t, l)
		wantMonitor(t, x, api.MaxInt, b, a, api.OK)
		full := append(slices.Clone(l), monitor(api.MaxInt, b, a))
		knows(t, x, full)
		for _, ref := range []int{1, 3, api.MaxInt - 1} {
			wantMonitor(t, x, ref, a, b, api.ErrTies)
			wantMonitor(t, x, ref, a, a, api.ErrTies)
			wantMonitor(t, x, ref, a, pid(256, 1), api.ErrArg)
			wantMonitor(t, x, ref, pid(0, 0), a, api.ErrArg)
			wantDemon(t, x, ref, api.ErrNone)
		}
		for _, ref := range append(refsThatMayNotBe(), api.MaxInt) {
			wantMonitor(t, x, ref, a, b, api.ErrArg)
		}
		for _, y := range full {
			if y.Ref != 0 {
				wantMonitor(t, x, y.Ref, y.A, y.B, api.ErrArg)
				wantMonitor(t, x, y.Ref, b, b, api.ErrArg)
			}
		}
		knows(t, x, full)
		wantDemon(t, x, api.MaxInt, api.OK)
		wantMonitor(t, x, 1, a, b, api.OK)
		wantMonitor(t, x, api.MaxInt, a, b, api.ErrTies)
		knows(t, x, slices.Insert(slices.Clone(l), n, monitor(1, a, b)))
	}
}

// From nothing up to the limit, by monitors alone, and down again.
func TestTb2UpToTheLimitAndDown(t *testing.T) {
	var d draw = 9
	l := many(0, 1025)
	for range 4 {
		x := tie.New()
		order := mixed(&d, l)
		put(t, x, order[:1024]...)
		wantMonitor(t, x, order[1024].Ref, order[1024].A, order[1024].B, api.ErrTies)
		wantLink(t, x, pid(0, 1), pid(0, 2), api.ErrTies)
		holds(t, x, slices.DeleteFunc(slices.Clone(l), func(y api.Tie) bool { return y == order[1024] }))
		for _, y := range order[:1024] {
			wantDemon(t, x, y.Ref, api.OK)
		}
		knows(t, x, nil)
		put(t, x, order[1:]...)
		holds(t, x, slices.DeleteFunc(slices.Clone(l), func(y api.Tie) bool { return y == order[0] }))
	}
}

// Demon ends that one monitor alone, by a ref that there is, once.
func TestTb2DemonAlone(t *testing.T) {
	for _, l := range lists() {
		for i, y := range l {
			if y.Ref == 0 || i > 5 && i%100 != 0 && i < len(l)-3 {
				continue
			}
			x := load(t, l)
			wantDemon(t, x, y.Ref, api.OK)
			left := slices.Delete(slices.Clone(l), i, i+1)
			knows(t, x, left)
			wantDemon(t, x, y.Ref, api.ErrNone)
			wantDemon(t, x, -y.Ref, api.ErrNone)
			put(t, x, y)
			knows(t, x, l)
		}
	}
}

func TestTb2DemonOfNone(t *testing.T) {
	for _, l := range lists() {
		x := load(t, l)
		for _, ref := range append(refsThatMayNotBe(), 1, 2, 3, 4, 5, 1<<32, 1<<32+2, api.MaxInt-1, api.MaxInt) {
			if !slices.ContainsFunc(l, func(y api.Tie) bool { return y.Ref == ref && ref != 0 }) {
				wantDemon(t, x, ref, api.ErrNone)
			}
		}
		holds(t, x, l)
	}
}
