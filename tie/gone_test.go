package tie_test

import (
	"slices"
	"testing"

	"carousel/api"
	"carousel/tie"
)

// sampled are all of a few, and some of many.
func sampled(l []api.Pid) []api.Pid {
	if len(l) < 40 {
		return l
	}
	var some []api.Pid
	for i := range 12 {
		some = append(some, l[i*len(l)/12])
	}
	return append(some, l[len(l)-1])
}

// Whoever goes: whom it was linked with and who watched it is told, and nothing has to do with it any more; all else stays.
func TestTb3Gone(t *testing.T) {
	for _, l := range lists() {
		for _, p := range sampled(everybody(l)) {
			x := load(t, l)
			wantGone(t, x, p, linked(l, p), told(l, p))
			left := without(l, p)
			knows(t, x, left)
			wantLinks(t, x, p)
			wantWatchers(t, x, p)
			wantGone(t, x, p, nil, nil)
			knows(t, x, left)
		}
	}
}

// Of monitors that it is A of, B of, and both: just those that it is B of alone are told, and all go.
func TestTb3GoneByMonitors(t *testing.T) {
	a, b, c := pid(2, 1), pid(1, 7), pid(2, 2)
	all := []api.Tie{monitor(1, a, b), monitor(2, b, a), monitor(3, a, a), monitor(4, c, a), monitor(5, a, c), monitor(6, b, c), monitor(7, a, a), monitor(8, b, a)}
	for bits := range 1 << len(all) {
		var l []api.Tie
		for i, m := range all {
			if bits>>i&1 == 1 {
				l = append(l, m)
			}
		}
		x := load(t, l)
		var ms []api.Tie
		var left []api.Tie
		for _, m := range l {
			switch m.Ref {
			case 2, 4, 8:
				ms = append(ms, m)
			case 6:
				left = append(left, m)
			}
		}
		wantGone(t, x, a, nil, ms)
		knows(t, x, left)
		for _, m := range l {
			if m.Ref != 6 {
				wantDemon(t, x, m.Ref, api.ErrNone)
			}
		}
	}
}

// Of links: from whichever side, in order, and none of others.
func TestTb3GoneByLinks(t *testing.T) {
	who := []api.Pid{pid(0, 1), pid(1, 1), pid(1, 2), pid(2, 1), pid(9, 3), pid(10, 1)}
	for _, a := range who {
		for bits := range 1 << len(who) {
			x := tie.New()
			var l []api.Pid
			for i, b := range who {
				if bits>>i&1 == 1 && a != b {
					l = append(l, b)
					if i%2 == 0 {
						wantLink(t, x, a, b, api.OK)
					} else {
						wantLink(t, x, b, a, api.OK)
					}
				}
			}
			wantLink(t, x, pid(5, 5), pid(6, 6), api.OK)
			wantGone(t, x, a, l, nil)
			knows(t, x, []api.Tie{link(pid(5, 5), pid(6, 6))})
			for _, b := range l {
				wantUnlink(t, x, b, a, api.ErrNone)
			}
		}
	}
}

// Who comes again behind it begins without ties, and has room for new ones.
func TestTb3GoneAndBack(t *testing.T) {
	for _, l := range lists() {
		for _, y := range l[:min(len(l), 4)] {
			x := load(t, l)
			wantGone(t, x, y.B, linked(l, y.B), told(l, y.B))
			wantLinks(t, x, y.B)
			wantWatchers(t, x, y.B)
			put(t, x, y)
			now := without(l, y.B)
			i := 0
			for i < len(now) && (now[i].Ref < y.Ref || now[i].Ref == 0 && y.Ref == 0 && (ahead(now[i].A, y.A) || now[i].A == y.A && ahead(now[i].B, y.B))) {
				i++
			}
			knows(t, x, slices.Insert(now, i, y))
		}
	}
}

// One who goes makes room for as many ties as it had.
func TestTb3GoneMakesRoom(t *testing.T) {
	for _, l := range [][]api.Tie{many(1024, 0), many(0, 1024), many(512, 512)} {
		x := load(t, l)
		p := l[0].B
		left := without(l, p)
		wantGone(t, x, p, linked(l, p), told(l, p))
		holds(t, x, left)
		for i := range len(l) - len(left) {
			if i%2 == 0 {
				wantMonitor(t, x, 100000+i, p, p, api.OK)
			} else {
				wantLink(t, x, p, pid(100+i, 1), api.OK)
			}
		}
		wantMonitor(t, x, 99999, p, p, api.ErrTies)
		wantLink(t, x, p, pid(99, 1), api.ErrTies)
	}
}

// Everybody goes, one behind the other: in the end nothing is left, and each link was told once, each monitor at most once.
func TestTb3EverybodyGoes(t *testing.T) {
	var d draw = 6
	for _, l := range lists() {
		x := load(t, l)
		links, refs := 0, map[int]int{}
		for _, p := range mixed(&d, everybody(l)) {
			now := x.All()
			who, ms := x.Gone(p)
			if !slices.Equal(who, linked(now, p)) || !slices.Equal(ms, told(now, p)) {
				t.Fatalf("Gone(%v): %v, %v of %v", p, who, ms, now)
			}
			links += len(who)
			for _, m := range ms {
				refs[m.Ref]++
				if refs[m.Ref] > 1 || !slices.Contains(l, m) {
					t.Fatalf("%v is told again, or never was", m)
				}
			}
			holds(t, x, without(now, p))
		}
		holds(t, x, nil)
		if n := len(l) - len(slices.DeleteFunc(slices.Clone(l), func(y api.Tie) bool { return y.Ref == 0 })); links != n {
			t.Fatal("links told:", links, "of", n)
		}
	}
}

// All are told in order, whatever order they came in: links ahead of monitors, by A and by B; monitors by Ref.
func TestTb3AllInOrder(t *testing.T) {
	var d draw = 7
	for _, l := range lists() {
		for range 4 {
			x := tie.New()
			for _, y := range mixed(&d, l) {
				if y.Ref == 0 && d.below(2) == 0 {
					y.A, y.B = y.B, y.A
				}
				put(t, x, y)
			}
			knows(t, x, l)
		}
	}
}

// Pids stand by N and then by Gen: all links of some whose Ns and Gens go crosswise.
func TestTb3AllByNThenByGen(t *testing.T) {
	who := []api.Pid{pid(0, 9), pid(1, 8), pid(1, 10), pid(2, 1), pid(2, 2), pid(10, 1), pid(11, api.MaxInt), pid(100, 1)}
	var l []api.Tie
	for i, a := range who {
		for _, b := range who[i+1:] {
			l = append(l, link(a, b))
		}
	}
	x := tie.New()
	for i := range l {
		y := l[len(l)-1-i]
		put(t, x, link(y.B, y.A))
	}
	knows(t, x, l)
}
