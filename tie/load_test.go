package tie_test

import (
	"slices"
	"testing"

	"carousel/api"
	"carousel/tie"
)

func TestTb3Load(t *testing.T) {
	for _, l := range lists() {
		x := load(t, l)
		knows(t, x, l)
		m := modelFrom(l)
		for _, d := range deeds() {
			both(t, x, m, d)
			holds(t, x, m.all())
		}
	}
	knows(t, load(t, []api.Tie{}), nil)
}

// There are up to MaxTies; a list that is too long and wrong besides is a wrong one, wherever it is wrong.
func TestTb3LoadOfHowMany(t *testing.T) {
	for _, n := range []int{0, 1, 2, 512, 1022, 1023, 1024} {
		for _, links := range []int{0, n / 2, n} {
			knows(t, load(t, many(links, n-links)), many(links, n-links))
		}
	}
	for _, n := range []int{1025, 1026, 1100, 1200} {
		for _, links := range []int{0, 1, n / 2, 1025} {
			l := many(links, n-links)
			wantNoLoad(t, l, api.ErrTies)
			for _, i := range []int{0, 1, n / 2, 1022, 1023, 1024, n - 1} {
				for _, spoilt := range []func(y *api.Tie){func(y *api.Tie) { y.A.N = -1 }, func(y *api.Tie) { y.B.Gen = 0 }, func(y *api.Tie) { y.Ref = -1 }} {
					wrong := slices.Clone(l)
					spoilt(&wrong[i])
					wantNoLoad(t, wrong, api.ErrArg)
				}
			}
			wantNoLoad(t, append(slices.Clone(l), l[n-1]), api.ErrArg)
			wantNoLoad(t, append(slices.Clone(l), l[0]), api.ErrArg)
		}
	}
	var long []api.Tie
	for i := range 1 << 17 {
		long = append(long, monitor(i+1, pid(i%256, 1), pid(i%255, 2)))
	}
	wantNoLoad(t, long, api.ErrTies)
	long[1<<17-1].Ref--
	wantNoLoad(t, long, api.ErrArg)
}

// A link's A stands ahead of its B, by N and then by Gen; in the first place and in a later one.
func TestTb3LoadOfLinks(t *testing.T) {
	who := pidsThatMayBe()
	for _, a := range who {
		for _, b := range who {
			l := []api.Tie{link(a, b)}
			late := []api.Tie{link(pid(0, 1), pid(0, 2)), link(a, b), monitor(1, a, b)}
			if !ahead(a, b) {
				wantNoLoad(t, l, api.ErrArg)
				wantNoLoad(t, late, api.ErrArg)
				continue
			}
			knows(t, load(t, l), l)
			if late[0] != late[1] {
				knows(t, load(t, late), late)
			} else {
				wantNoLoad(t, late, api.ErrArg)
			}
		}
	}
}

// Links stand by A, then by B, none twice: all rows of three.
func TestTb3LoadOfLinksInOrder(t *testing.T) {
	a, b, c := pid(1, 9), pid(2, 1), pid(2, 3)
	in := []api.Tie{link(pid(1, 2), pid(1, 3)), link(pid(1, 2), a), link(pid(1, 2), b), link(a, b), link(a, c), link(b, c), link(c, pid(10, 1))}
	for i, x := range in {
		for k, y := range in {
			if l := []api.Tie{x, y}; i < k {
				knows(t, load(t, l), l)
			} else {
				wantNoLoad(t, l, api.ErrArg)
			}
			for n, z := range in {
				l := []api.Tie{x, y, z, monitor(1, a, a)}
				if i < k && k < n {
					knows(t, load(t, l), l)
				} else {
					wantNoLoad(t, l, api.ErrArg)
				}
			}
		}
	}
}

// Monitors stand by Ref, none twice, whoever they are of: all rows of three.
func TestTb3LoadOfMonitorsInOrder(t *testing.T) {
	a, b := pid(1, 1), pid(2, 1)
	refs := []int{1, 2, 9, 10, 1 << 32, api.MaxInt - 1, api.MaxInt}
	who := [][2]api.Pid{{a, b}, {b, a}, {a, a}, {b, b}}
	for i, ref := range refs {
		for k := range refs {
			for n := range refs {
				w := i + k + n
				l := []api.Tie{link(a, b), monitor(ref, who[w%4][0], who[w%4][1]), monitor(refs[k], who[w/2%4][0], who[w/2%4][1]), monitor(refs[n], who[w/3%4][0], who[w/3%4][1])}
				for _, l := range [][]api.Tie{l, l[1:]} {
					if i < k && k < n {
						knows(t, load(t, l), l)
					} else {
						wantNoLoad(t, l, api.ErrArg)
					}
				}
			}
		}
	}
	for _, one := range who { // one ref twice, of those who stand ahead, the same, behind
		for _, two := range who {
			wantNoLoad(t, []api.Tie{monitor(5, one[0], one[1]), monitor(5, two[0], two[1])}, api.ErrArg)
		}
	}
}

// Refs are 1 to MaxInt, in the first place and in a later one.
func TestTb3LoadOfRefs(t *testing.T) {
	a, b := pid(1, 1), pid(2, 1)
	for _, ref := range []int{1, 2, 1 << 32, api.MaxInt - 1, api.MaxInt} {
		for _, l := range [][]api.Tie{{monitor(ref, a, b)}, {monitor(ref, b, a)}, {monitor(ref, a, a)}, {link(a, b), monitor(ref, a, b)}} {
			knows(t, load(t, l), l)
		}
	}
	for _, ref := range refsThatMayNotBe() {
		if ref == 0 {
			continue
		}
		wantNoLoad(t, []api.Tie{monitor(ref, a, b)}, api.ErrArg)
		wantNoLoad(t, []api.Tie{monitor(ref, a, a)}, api.ErrArg)
		wantNoLoad(t, []api.Tie{link(a, b), monitor(ref, a, b)}, api.ErrArg)
		wantNoLoad(t, []api.Tie{monitor(1, a, b), monitor(ref, a, b)}, api.ErrArg)
		wantNoLoad(t, []api.Tie{monitor(ref, a, b), link(a, b)}, api.ErrArg)
		wantNoLoad(t, []api.Tie{monitor(ref, a, b), monitor(api.MaxInt, a, b)}, api.ErrArg)
	}
}

// No link stands behind a monitor, whoever they are of.
func TestTb3LoadOfLinksBehindMonitors(t *testing.T) {
	a, b, c := pid(1, 1), pid(2, 1), pid(3, 1)
	for _, m := range []api.Tie{monitor(1, a, a), monitor(1, a, b), monitor(1, c, b), monitor(api.MaxInt, c, c)} {
		wantNoLoad(t, []api.Tie{m, link(a, b)}, api.ErrArg)
		wantNoLoad(t, []api.Tie{link(a, b), m, link(b, c)}, api.ErrArg)
		wantNoLoad(t, []api.Tie{link(a, b), m, link(a, b)}, api.ErrArg)
		wantNoLoad(t, []api.Tie{m, link(a, b), m}, api.ErrArg)
		l := []api.Tie{link(a, b), link(b, c), m}
		knows(t, load(t, l), l)
	}
	wantNoLoad(t, append(many(0, 1000), link(a, b)), api.ErrArg)
}

// Whoever may not be is refused in either place, of links and monitors, in the first place and in a later one; whoever may be is not.
func TestTb3LoadOfPids(t *testing.T) {
	first, last := pid(0, 1), pid(255, api.MaxInt)
	for _, p := range pidsThatMayNotBe() {
		for _, y := range []api.Tie{link(p, last), link(first, p), monitor(9, p, last), monitor(9, last, p), monitor(9, first, p), monitor(9, p, p), link(p, p)} {
			wantNoLoad(t, []api.Tie{y}, api.ErrArg)
			wantNoLoad(t, []api.Tie{link(first, pid(0, 2)), y}, api.ErrArg)
			wantNoLoad(t, []api.Tie{monitor(1, first, last), y}, api.ErrArg)
			wantNoLoad(t, []api.Tie{y, monitor(1000, first, last)}, api.ErrArg)
			wantNoLoad(t, []api.Tie{y, link(pid(254, 1), pid(254, 2))}, api.ErrArg)
		}
	}
	for _, p := range pidsThatMayBe() {
		for _, l := range [][]api.Tie{{monitor(9, p, last)}, {monitor(9, first, p)}, {monitor(1, p, p)}, {link(first, last), monitor(2, p, p), monitor(3, last, p)}} {
			knows(t, load(t, l), l)
		}
	}
}

// All rows of up to three of some ties, those that may be and those that may not: held against the chapter's words, taken one by one.
func TestTb3LoadOfAllSmallLists(t *testing.T) {
	a, b, c := pid(0, 1), pid(0, 2), pid(1, 1)
	ys := []api.Tie{{}, link(a, b), link(b, a), link(a, a), link(a, c), link(b, c), link(c, b), link(a, pid(0, 0)), link(pid(-1, 1), a), link(c, pid(256, 1)), monitor(-1, a, b), monitor(1, a, b), monitor(1, b, a), monitor(1, c, c), monitor(2, a, a), monitor(2, pid(0, 0), a), monitor(2, a, pid(256, 1)), monitor(api.MaxInt, c, a), monitor(api.MaxInt+1, c, a), monitor(least, a, b)}
	rows := [][]api.Tie{nil}
	for _, x := range ys {
		rows = append(rows, []api.Tie{x})
		for _, y := range ys {
			rows = append(rows, []api.Tie{x, y})
			for _, z := range ys {
				rows = append(rows, []api.Tie{x, y, z})
			}
		}
	}
	loaded := 0
	for _, l := range rows {
		if !mayBe(l) {
			wantNoLoad(t, l, api.ErrArg)
			continue
		}
		loaded++
		knows(t, load(t, l), l)
	}
	if loaded < 60 {
		t.Error("too few of the lists may be:", loaded)
	}
}

// Ties that are refused are none; those that are loaded beside them do not know of them.
func TestTb3LoadBehindARefusal(t *testing.T) {
	for _, l := range lists() {
		x := load(t, l)
		wantNoLoad(t, append(slices.Clone(l), monitor(-1, pid(0, 1), pid(1, 1))), api.ErrArg)
		wantNoLoad(t, slices.Insert(slices.Clone(l), 0, link(pid(0, 1), pid(0, 1))), api.ErrArg)
		wantNoLoad(t, many(0, 1025), api.ErrTies)
		holds(t, x, l)
		y, e := tie.Load(l)
		want(t, "Load", e, api.OK)
		holds(t, y, l)
	}
}
