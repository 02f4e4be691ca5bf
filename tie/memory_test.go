package tie_test

import (
	"slices"
	"testing"

	"carousel/api"
	"carousel/tie"
)

// notGiven are ties that neither New nor Load nor Copy gave.
func notGiven(t *testing.T) map[string]*tie.Ties {
	t.Helper()
	byHand, empty := *load(t, some()), *tie.New()
	wrong, _ := tie.Load([]api.Tie{link(pid(1, 1), pid(0, 1))})
	tooMany, _ := tie.Load(many(0, 1025))
	var none *tie.Ties
	return map[string]*tie.Ties{"nil": nil, "zero": {}, "new": new(tie.Ties), "copied by hand": &byHand, "empty ones copied by hand": &empty, "refused by Load": wrong, "too many for Load": tooMany, "a copy of nil": none.Copy(), "a copy of some copied by hand": byHand.Copy(), "a copy of zero": new(tie.Ties).Copy()}
}

// some are ties of each kind.
func some() []api.Tie {
	a, b, c := pid(0, 1), pid(1, 1), pid(0, 2)
	return []api.Tie{link(a, c), link(a, b), monitor(1, a, b), monitor(2, b, a), monitor(3, c, c)}
}

func TestR1OfTiesThatWereNotGiven(t *testing.T) {
	who := append(pidsThatMayNotBe()[:20], pid(0, 1), pid(1, 1), pid(0, 2), pid(255, api.MaxInt))
	for what, x := range notGiven(t) {
		for range 2 {
			for _, a := range who {
				for _, b := range who {
					want(t, what+": Link", x.Link(a, b), api.ErrArg)
					want(t, what+": Unlink", x.Unlink(a, b), api.ErrArg)
					want(t, what+": Monitor", x.Monitor(9, a, b), api.ErrArg)
				}
				wantLinks(t, x, a)
				wantWatchers(t, x, a)
				wantGone(t, x, a, nil, nil)
			}
			for _, ref := range append(refsThatMayNotBe(), 1, 2, 3, 4, api.MaxInt) {
				want(t, what+": Monitor", x.Monitor(ref, pid(0, 1), pid(1, 1)), api.ErrArg)
				want(t, what+": Demon", x.Demon(ref), api.ErrArg)
			}
			if len(x.All()) > 0 || x.Copy() != nil {
				t.Error(what, x.All(), x.Copy())
			}
		}
	}
}

// Ties go on as they did when a struct that was copied of them by hand is used.
func TestR1CopiedByHandChangesNothing(t *testing.T) {
	for _, l := range lists() {
		x := load(t, l)
		c := *x
		c.Link(pid(77, 7), pid(78, 7))
		c.Monitor(4444, pid(77, 7), pid(78, 7))
		for _, y := range l[:min(len(l), 20)] {
			c.Unlink(y.A, y.B)
			c.Demon(y.Ref)
			c.Gone(y.B)
		}
		knows(t, x, l)
	}
}

// wild are numbers at which ties could go wrong.
func wild() []int {
	return []int{least, least + 1, api.MinInt - 1, api.MinInt, -1 << 32, -256, -1, 0, 1, 2, 255, 256, 257, 1 << 32, api.MaxInt, api.MaxInt + 1, most - 1, most}
}

func TestR1WildArguments(t *testing.T) {
	for _, l := range [][]api.Tie{nil, some(), many(1024, 0), many(0, 1024)} {
		x, m := load(t, l), modelFrom(l)
		other := pid(100, 1)
		for _, n := range wild() {
			for _, gen := range wild() {
				p := pid(n, gen)
				for _, d := range []deed{{"link", 0, p, other}, {"link", 0, other, p}, {"link", 0, p, p}, {"monitor", n, p, other}, {"monitor", gen, other, p}, {"monitor", gen, p, p}, {"of", 0, p, p}, {"unlink", 0, other, p}, {"demon", n, p, p}, {"gone", 0, p, p}, {"unlink", 0, p, p}} {
					both(t, x, m, d)
				}
				for _, y := range []api.Tie{link(p, other), link(other, p), monitor(n, p, p), monitor(gen, pid(gen, n), other)} {
					if one := []api.Tie{y}; mayBe(one) {
						holds(t, load(t, one), one)
					} else {
						wantNoLoad(t, one, api.ErrArg)
					}
				}
			}
		}
		holds(t, x, m.all())
	}
	wantNoLoad(t, make([]api.Tie, 1<<18), api.ErrArg)
	wantNoLoad(t, slices.Repeat([]api.Tie{monitor(1, pid(0, 1), pid(0, 1))}, 1<<18), api.ErrArg)
}

// What Load was given is its giver's: what is written over it, or behind its end, is not seen, and the ties write nothing there.
func TestR3LoadKeepsItsOwn(t *testing.T) {
	by := monitor(77, pid(7, 77), pid(77, 7))
	for _, l := range lists() {
		given := roomy(l, monitor(-1, pid(-1, 0), pid(0, 0)), link(pid(5, 5), pid(4, 4)))
		before := slices.Clone(given[:cap(given)])
		x := load(t, given)
		c, m := x.Copy(), modelFrom(l)
		for _, d := range deeds() {
			both(t, c, m, d)
		}
		if !slices.Equal(given[:cap(given)], before) {
			t.Fatal("what was handed in is changed:", given[:cap(given)])
		}
		spoil(given, by)
		knows(t, x, l)
		m = modelFrom(l)
		for _, d := range deeds() {
			both(t, x, m, d)
			holds(t, x, m.all())
		}
		if i := slices.IndexFunc(given[:cap(given)], func(y api.Tie) bool { return y != by }); i >= 0 {
			t.Error("the ties write into what was handed in:", given[:cap(given)][i])
		}
	}
}

// What stands behind the end of the list that Load is given is not there: neither as a wrong tie nor as one too many.
func TestR3BehindTheEnd(t *testing.T) {
	for _, l := range lists() {
		for _, behind := range []api.Tie{{}, monitor(-1, pid(0, 1), pid(0, 1)), monitor(api.MaxInt-2, pid(0, 1), pid(0, 1)), link(pid(0, 1), pid(0, 2))} {
			holds(t, load(t, roomy(l, behind)), l)
		}
	}
	for _, l := range [][]api.Tie{many(1025, 0), many(0, 1025), many(700, 325)} {
		holds(t, load(t, l[:1024]), l[:1024:1024])
		wantNoLoad(t, l, api.ErrTies)
	}
}

// A refused Load leaves what it was given as it was.
func TestR3RefusedLoadChangesNothing(t *testing.T) {
	for _, l := range lists() {
		for _, wrong := range [][]api.Tie{append(slices.Clone(l), link(pid(1, 1), pid(0, 1))), append(slices.Clone(l), monitor(3, pid(0, 1), pid(256, 1))), append([]api.Tie{monitor(-1, pid(0, 1), pid(0, 1))}, l...)} {
			wrong = roomy(wrong, monitor(1, pid(0, 1), pid(0, 1)))
			before := slices.Clone(wrong[:cap(wrong)])
			wantNoLoad(t, wrong, api.ErrArg)
			if !slices.Equal(wrong[:cap(wrong)], before) {
				t.Fatal("a refused Load changes what it was given:", wrong)
			}
		}
	}
}

// A call that is refused changes nothing that a later call could tell.
func TestR2RefusedCallsChangeNothing(t *testing.T) {
	a, b := pid(0, 1), pid(1, 1)
	for _, l := range lists() {
		x := load(t, l)
		for _, p := range pidsThatMayNotBe()[:30] {
			wantLink(t, x, p, a, api.ErrArg)
			wantUnlink(t, x, a, p, api.ErrArg)
			wantMonitor(t, x, 4445, p, b, api.ErrArg)
			wantGone(t, x, p, nil, nil)
		}
		wantLink(t, x, a, a, api.ErrArg)
		wantMonitor(t, x, 0, a, b, api.ErrArg)
		wantDemon(t, x, 0, api.ErrNone)
		wantDemon(t, x, 4445, api.ErrNone)
		wantUnlink(t, x, pid(90, 9), pid(91, 9), api.ErrNone)
		if len(l) == 1024 {
			wantLink(t, x, pid(90, 9), pid(91, 9), api.ErrTies)
			wantMonitor(t, x, 4445, a, b, api.ErrTies)
			wantDemon(t, x, 4445, api.ErrNone)
			wantUnlink(t, x, pid(90, 9), pid(91, 9), api.ErrNone)
		}
		knows(t, x, l)
	}
}

// What was told is its asker's: it may be written over and appended to, and does not change with the ties.
func TestR3AnswersAreTheirOwn(t *testing.T) {
	by, who := monitor(88, pid(8, 88), pid(88, 8)), pid(8, 88)
	for _, l := range lists() {
		x := load(t, l)
		for _, p := range sampled(everybody(l)) {
			links, watchers, all := x.Links(p), x.Watchers(p), x.All()
			keptLinks, keptWatchers, keptAll := x.Links(p), x.Watchers(p), x.All()
			spoil(links, who)
			spoil(watchers, by)
			spoil(all, by)
			holds(t, x, l)
			wantLinks(t, x, p, linked(l, p)...)
			wantWatchers(t, x, p, watching(l, p)...)
			c := x.Copy()
			goneLinks, goneWatchers := c.Gone(p)
			againLinks, againWatchers := load(t, l).Gone(p)
			spoil(goneLinks, who)
			holds(t, c, without(l, p))
			if !slices.Equal(againLinks, linked(l, p)) || !slices.Equal(goneWatchers, told(l, p)) {
				t.Fatal("the answers of Gone share what they tell:", againLinks, goneWatchers)
			}
			spoil(goneWatchers, by)
			m := modelFrom(without(l, p))
			for _, d := range deeds() {
				both(t, c, m, d)
			}
			holds(t, c, m.all())
			holds(t, x, l)
			if !slices.Equal(keptLinks, linked(l, p)) || !slices.Equal(keptWatchers, watching(l, p)) || !slices.Equal(keptAll, l) || !slices.Equal(againWatchers, told(l, p)) {
				t.Fatal("an answer changes with another one:", keptLinks, keptWatchers, keptAll)
			}
			wantAll(t, links, who)
			wantAll(t, watchers, by)
			wantAll(t, all, by)
			wantAll(t, goneLinks, who)
			wantAll(t, goneWatchers, by)
		}
	}
}

// wantAll asks for a list of nothing else, in the room behind its end, too.
func wantAll[T comparable](t *testing.T, l []T, by T) {
	t.Helper()
	for _, x := range l[:cap(l)] {
		if x != by {
			t.Fatal("an answer was written into:", x)
		}
	}
}

// What was told before a call does not change by it.
func TestR3AnswersStay(t *testing.T) {
	for _, l := range lists() {
		for _, d := range deeds() {
			x := load(t, l)
			p := d.a
			links, watchers, all := x.Links(p), x.Watchers(p), x.All()
			both(t, x, modelFrom(l), d)
			x.Gone(p)
			if !slices.Equal(links, linked(l, p)) || !slices.Equal(watchers, watching(l, p)) || !slices.Equal(all, l) {
				t.Fatal("an answer changes with the ties:", links, watchers, all)
			}
		}
	}
}

// What lies in the spare room of an answer is new, too.
func TestR3SpareRoom(t *testing.T) {
	for _, l := range lists() {
		for _, p := range sampled(everybody(l)) {
			x := load(t, l)
			wantNew(t, x.Links(p))
			wantNew(t, x.Watchers(p))
			wantNew(t, x.All())
			who, ms := x.Gone(p)
			wantNew(t, who)
			wantNew(t, ms)
		}
	}
}

func wantNew[T comparable](t *testing.T, l []T) {
	t.Helper()
	var none T
	for _, x := range l[len(l):cap(l)] {
		if x != none {
			t.Fatal("something lies behind an answer:", x)
		}
	}
}

// Ties, their copy, and such as are loaded of what they tell go their own ways, whatever is done to one of them.
func TestR4Copy(t *testing.T) {
	ds := deeds()
	for _, s := range lists() {
		for k := range ds {
			x := load(t, s)
			c, l := x.Copy(), load(t, x.All())
			if c == nil || c == x || c == l {
				t.Fatal("Copy:", c, x, l)
			}
			m, n, o := modelFrom(s), modelFrom(s), modelFrom(s)
			for i := range ds {
				both(t, x, m, ds[i])
				both(t, c, n, ds[(i*5+k)%len(ds)])
				both(t, l, o, ds[(i*7+k+1)%len(ds)])
			}
			holds(t, x, m.all())
			holds(t, c, n.all())
			holds(t, l, o.all())
		}
	}
}

// Copy leaves the ties as they were, and takes nothing from them.
func TestR4CopyOfCopies(t *testing.T) {
	for _, l := range lists() {
		x := load(t, l)
		c := x.Copy()
		for _, y := range l {
			x.Gone(y.A)
		}
		knows(t, x, nil)
		knows(t, c, l)
		d := c.Copy()
		for _, y := range l {
			if y.Ref == 0 {
				wantUnlink(t, c, y.A, y.B, api.OK)
			} else {
				wantDemon(t, c, y.Ref, api.OK)
			}
		}
		knows(t, c, nil)
		knows(t, d, l)
		put(t, c, some()...)
		holds(t, d, l)
		holds(t, x, nil)
	}
}

// Ties know nothing of other ones: the same links and refs stand in both.
func TestR4TiesKnowNothingOfOneAnother(t *testing.T) {
	a, b := pid(1, 1), pid(2, 1)
	x, y := tie.New(), tie.New()
	put(t, x, link(a, b), monitor(1, a, b))
	knows(t, y, nil)
	wantUnlink(t, y, a, b, api.ErrNone)
	wantDemon(t, y, 1, api.ErrNone)
	put(t, y, monitor(1, b, a))
	wantGone(t, x, a, []api.Pid{b}, nil)
	knows(t, y, []api.Tie{monitor(1, b, a)})
	put(t, y, link(b, a))
	knows(t, x, nil)
	full := load(t, many(0, 1024))
	wantLink(t, full, a, b, api.ErrTies)
	wantLink(t, x, a, b, api.OK)
}

// The same calls tell the same, run after run: whatever order maps are gone through in.
func TestR4TheSameAgain(t *testing.T) {
	run := func() ([]api.Pid, []api.Tie) {
		var who []api.Pid
		var ties []api.Tie
		var d draw = 55
		x := load(t, many(300, 300))
		for k := range 150 {
			y := d.deed(k / 40)
			switch y.what {
			case "link":
				x.Link(y.a, y.b)
			case "monitor":
				x.Monitor(y.ref, y.a, y.b)
			case "unlink":
				x.Unlink(y.a, y.b)
			case "demon":
				x.Demon(y.ref)
			case "gone":
				l, ms := x.Gone(y.a)
				who, ties = append(who, l...), append(ties, ms...)
			}
			who, ties = append(who, x.Links(y.b)...), append(ties, x.Watchers(y.b)...)
			ties = append(ties, x.All()[:40]...)
		}
		return who, append(ties, x.All()...)
	}
	who, ties := run()
	if len(who) < 500 || len(ties) < 1000 {
		t.Error("the script tells too little:", len(who), len(ties))
	}
	for range 20 {
		if l, ms := run(); !slices.Equal(l, who) || !slices.Equal(ms, ties) {
			t.Fatal("the same calls tell something else")
		}
	}
}

// What is told stays the same, however often it is asked for.
func TestR4AskedAgain(t *testing.T) {
	var d draw = 13
	for range 20 {
		x, m := d.grown(t)
		l := m.all()
		for range 3 {
			knows(t, x, l)
		}
	}
}
