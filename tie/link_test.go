package tie_test

import (
	"slices"
	"testing"

	"carousel/api"
	"carousel/tie"
)

func TestExamples(t *testing.T) {
	one, two := pid(1, 1), pid(2, 1)
	x := tie.New()
	wantLink(t, x, two, one, api.OK)
	holds(t, x, []api.Tie{link(one, two)})
	wantLinks(t, x, one, two)
	wantLink(t, x, one, one, api.ErrArg)
	wantUnlink(t, x, one, two, api.OK)
	wantUnlink(t, x, one, two, api.ErrNone)
	holds(t, x, nil)

	wantMonitor(t, x, 5, one, two, api.OK)
	wantMonitor(t, x, 3, two, two, api.OK)
	wantWatchers(t, x, two, monitor(3, two, two), monitor(5, one, two))
	wantGone(t, x, two, nil, []api.Tie{monitor(5, one, two)})
	holds(t, x, nil)
}

func TestTb1New(t *testing.T) {
	x, y := tie.New(), tie.New()
	if x == nil || y == nil || x == y {
		t.Fatal("New:", x, y)
	}
	knows(t, x, nil)
	for _, p := range append(pidsThatMayBe(), pidsThatMayNotBe()...) {
		wantLinks(t, x, p)
		wantWatchers(t, x, p)
		wantGone(t, x, p, nil, nil)
	}
	wantDemon(t, x, 1, api.ErrNone)
	wantUnlink(t, x, pid(0, 1), pid(1, 1), api.ErrNone)
	knows(t, x, nil)
}

// Whoever may be is linked with whoever else, from either side; in whichever order, it is one link.
func TestTb1LinkOfWhoMayBe(t *testing.T) {
	who := pidsThatMayBe()
	for _, a := range who {
		for _, b := range who {
			x := tie.New()
			if a == b {
				wantLink(t, x, a, b, api.ErrArg)
				wantUnlink(t, x, a, b, api.ErrArg)
				knows(t, x, nil)
				continue
			}
			l := []api.Tie{link(a, b)}
			if ahead(b, a) {
				l = []api.Tie{link(b, a)}
			}
			wantUnlink(t, x, a, b, api.ErrNone)
			wantLink(t, x, a, b, api.OK)
			knows(t, x, l)
			wantLink(t, x, a, b, api.OK)
			wantLink(t, x, b, a, api.OK)
			knows(t, x, l)
			wantUnlink(t, x, b, a, api.OK)
			knows(t, x, nil)
			wantUnlink(t, x, b, a, api.ErrNone)
			wantUnlink(t, x, a, b, api.ErrNone)
			wantLink(t, x, b, a, api.OK)
			wantUnlink(t, x, b, a, api.OK)
			wantLink(t, x, a, b, api.OK)
			wantUnlink(t, x, a, b, api.OK)
			knows(t, x, nil)
		}
	}
}

// Who may not be is refused in either place, beside whoever, with room and without, whether there are such ties or not.
func TestTb1LinkOfWhoMayNotBe(t *testing.T) {
	for _, l := range [][]api.Tie{nil, {link(pid(0, 1), pid(1, 1)), monitor(1, pid(0, 1), pid(1, 1))}, many(1024, 0), many(0, 1024)} {
		x := load(t, l)
		for _, p := range pidsThatMayNotBe() {
			for _, b := range []api.Pid{p, pid(0, 1), pid(1, 1), pid(255, api.MaxInt), {}, pid(-1, 1), pid(256, 1), pid(0, 0), pid(most, most)} {
				wantLink(t, x, p, b, api.ErrArg)
				wantLink(t, x, b, p, api.ErrArg)
				wantUnlink(t, x, p, b, api.ErrArg)
				wantUnlink(t, x, b, p, api.ErrArg)
			}
			wantLinks(t, x, p)
		}
		knows(t, x, l)
	}
}

// Pids whose N alone, or Gen alone, differ are others.
func TestTb1PidsThatAreAlike(t *testing.T) {
	x := tie.New()
	wantLink(t, x, pid(1, 2), pid(1, 1), api.OK)
	wantLink(t, x, pid(1, 2), pid(2, 2), api.OK)
	wantLink(t, x, pid(2, 1), pid(1, 2), api.OK)
	l := []api.Tie{link(pid(1, 1), pid(1, 2)), link(pid(1, 2), pid(2, 1)), link(pid(1, 2), pid(2, 2))}
	knows(t, x, l)
	for _, two := range [][2]api.Pid{{pid(1, 1), pid(2, 2)}, {pid(2, 1), pid(2, 2)}, {pid(1, 1), pid(2, 1)}, {pid(1, 2), pid(1, 3)}, {pid(1, 2), pid(2, 3)}, {pid(1, 2), pid(3, 2)}, {pid(0, 2), pid(1, 2)}} {
		wantUnlink(t, x, two[0], two[1], api.ErrNone)
		wantUnlink(t, x, two[1], two[0], api.ErrNone)
	}
	knows(t, x, l)
	wantUnlink(t, x, pid(2, 1), pid(1, 2), api.OK)
	knows(t, x, []api.Tie{l[0], l[2]})
	wantUnlink(t, x, pid(1, 2), pid(1, 1), api.OK)
	knows(t, x, l[2:])
}

// Those who are linked are told by N and then by Gen, as numbers, from whichever side and in whatever order they were linked.
func TestTb1LinksInOrder(t *testing.T) {
	var d draw = 3
	others := []api.Pid{pid(0, 1), pid(0, 2), pid(0, 10), pid(1, 1), pid(2, 9), pid(2, 10), pid(2, 100), pid(9, 1), pid(10, 1), pid(10, api.MaxInt), pid(99, 1), pid(100, 1), pid(255, 1), pid(255, api.MaxInt)}
	for range 100 {
		for _, a := range []api.Pid{pid(0, 3), pid(2, 11), pid(10, 2), pid(255, 2), pid(5, 5), pid(0, api.MaxInt)} {
			x := tie.New()
			for _, b := range mixed(&d, others) {
				if d.below(2) == 0 {
					wantLink(t, x, a, b, api.OK)
				} else {
					wantLink(t, x, b, a, api.OK)
				}
			}
			wantLinks(t, x, a, others...)
			for _, b := range others {
				wantLinks(t, x, b, a)
			}
			left := others
			for _, b := range mixed(&d, others)[:7] {
				wantUnlink(t, x, a, b, api.OK)
				left = slices.DeleteFunc(slices.Clone(left), func(p api.Pid) bool { return p == b })
				wantLinks(t, x, a, left...)
				wantLinks(t, x, b)
			}
		}
	}
}

// At the limit: one link more, if there are MaxTies - 1 ties; none, if there are MaxTies, but for those that there are already; of whatever kind they are.
func TestTb1LinkAtTheLimit(t *testing.T) {
	a, b, c := pid(200, 1), pid(201, 1), pid(202, 1)
	for _, n := range []int{0, 1, 500, 1022, 1023} {
		l := many(n, 1023-n)
		x := load(t, l)
		wantLink(t, x, b, a, api.OK)
		full := slices.Insert(slices.Clone(l), n, link(a, b))
		knows(t, x, full)
		for _, two := range [][2]api.Pid{{b, c}, {c, b}, {a, c}, {pid(0, 1), a}, {a, pid(0, 1)}} {
			wantLink(t, x, two[0], two[1], api.ErrTies)
		}
		for _, y := range full {
			if y.Ref == 0 {
				wantLink(t, x, y.A, y.B, api.OK)
				wantLink(t, x, y.B, y.A, api.OK)
			}
		}
		wantLink(t, x, a, a, api.ErrArg)
		wantLink(t, x, c, c, api.ErrArg)
		wantLink(t, x, c, pid(256, 1), api.ErrArg)
		wantLink(t, x, api.Pid{}, c, api.ErrArg)
		knows(t, x, full)
		wantUnlink(t, x, b, c, api.ErrNone)
		wantUnlink(t, x, a, b, api.OK)
		wantLink(t, x, c, b, api.OK)
		wantLink(t, x, a, b, api.ErrTies)
		wantUnlink(t, x, a, b, api.ErrNone)
		knows(t, x, slices.Insert(slices.Clone(l), n, link(b, c)))
	}
}

// From nothing up to the limit, by links alone, and down again.
func TestTb1UpToTheLimitAndDown(t *testing.T) {
	var d draw = 8
	l := many(1025, 0)
	for range 4 {
		x := tie.New()
		order := mixed(&d, l)
		put(t, x, order[:1024]...)
		wantLink(t, x, order[1024].A, order[1024].B, api.ErrTies)
		wantMonitor(t, x, 1, pid(0, 1), pid(0, 1), api.ErrTies)
		holds(t, x, slices.DeleteFunc(slices.Clone(l), func(y api.Tie) bool { return y == order[1024] }))
		for _, y := range order[:1024] {
			wantUnlink(t, x, y.B, y.A, api.OK)
		}
		knows(t, x, nil)
		put(t, x, order[1:]...)
		holds(t, x, slices.DeleteFunc(slices.Clone(l), func(y api.Tie) bool { return y == order[0] }))
	}
}

// Monitors are no links: Unlink does not end them, nor does it need one; nor are links monitors.
func TestTb1LinksBesideMonitors(t *testing.T) {
	a, b := pid(3, 1), pid(4, 1)
	x := tie.New()
	put(t, x, monitor(1, a, b), monitor(2, b, a))
	wantUnlink(t, x, a, b, api.ErrNone)
	wantLinks(t, x, a)
	wantLink(t, x, b, a, api.OK)
	knows(t, x, []api.Tie{link(a, b), monitor(1, a, b), monitor(2, b, a)})
	wantUnlink(t, x, a, b, api.OK)
	knows(t, x, []api.Tie{monitor(1, a, b), monitor(2, b, a)})
	wantUnlink(t, x, a, b, api.ErrNone)
	wantLink(t, x, a, b, api.OK)
	wantDemon(t, x, 1, api.OK)
	wantDemon(t, x, 2, api.OK)
	wantDemon(t, x, 0, api.ErrNone)
	knows(t, x, []api.Tie{link(a, b)})
}

// Unlink ends that one link alone.
func TestTb1UnlinkAlone(t *testing.T) {
	for _, l := range lists() {
		for i, y := range l {
			if y.Ref != 0 || i > 5 && i%100 != 0 {
				continue
			}
			x := load(t, l)
			wantUnlink(t, x, y.B, y.A, api.OK)
			left := slices.Delete(slices.Clone(l), i, i+1)
			knows(t, x, left)
			wantUnlink(t, x, y.A, y.B, api.ErrNone)
			wantLink(t, x, y.B, y.A, api.OK)
			knows(t, x, l)
		}
	}
}
