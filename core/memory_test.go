package core_test

import (
	"slices"
	"testing"

	"carousel/api"
	"carousel/core"
)

// notGiven are cores that neither New nor Load nor Copy gave.
func notGiven(t *testing.T) map[string]*core.Core {
	t.Helper()
	byHand, empty := *at("0102", 2, "a b*", "", "c").load(t), *begun(t, digits("012"))
	refused, _ := core.New(digits("01"))
	unloaded, _ := core.Load(digits("012"), 3, lists{})
	twice, _ := core.Load(digits("012"), 0, lists{entries("a a"), nil, nil})
	long, _ := core.Load(digits("012"), 0, lists{nil, nil, many(65, 0)})
	var none *core.Core
	return map[string]*core.Core{"nil": nil, "zero": {}, "new": new(core.Core), "copied by hand": &byHand, "an empty one copied by hand": &empty, "refused by New": refused, "refused by Load": unloaded, "refused for one twice": twice, "refused for too many": long, "a copy of nil": none.Copy(), "a copy of zero": new(core.Core).Copy(), "a copy of one copied by hand": byHand.Copy()}
}

func TestR1OfCoresThatWereNotGiven(t *testing.T) {
	for name, c := range notGiven(t) {
		for range 2 {
			for _, class := range wild() {
				for _, x := range append(entries("a b c"), api.Entry{}) {
					want(t, name+": Push", c.Push(class, x.Pid), api.ErrArg)
					wantDrop(t, c, x.Pid, 0, 0, api.ErrArg)
					if k, i, e := c.Find(x.Pid); k != 0 || i != 0 || e != api.ErrArg {
						t.Errorf("%s: Find(%v): %d, %d, %d", name, x.Pid, k, i, e)
					}
				}
				for _, n := range wild() {
					wantCut(t, c, class, n, nil, api.ErrArg)
				}
				for _, l := range []list{nil, entries("d"), entries("d d"), many(65, 0)} {
					wantJoin(t, c, class, l, api.ErrArg)
				}
				if q := c.Queue(class); len(q) > 0 {
					t.Errorf("%s: Queue(%d): %v", name, class, q)
				}
			}
			wantPick(t, c, api.Entry{}, 0, api.ErrArg)
			if !c.Empty() || c.Hand() != 0 || c.Copy() != nil {
				t.Error(name, c.Empty(), c.Hand(), c.Copy())
			}
		}
	}
}

// A core goes on as it did when a struct that was copied of it by hand is used.
func TestR1CopiedByHandChangesNothing(t *testing.T) {
	for _, s := range states() {
		c := s.load(t)
		other := *c
		other.Push(0, pid(99998, 1))
		other.Pick()
		other.Cut(1, 1)
		other.Join(2, entries("Y X"))
		for _, x := range s.all() {
			other.Drop(x.Pid)
		}
		knows(t, c, s)
	}
}

// No call panics, and all end, at arguments of all kinds; each tells what the model does.
func TestR1AllKindsOfArguments(t *testing.T) {
	for _, s := range []state{at("012", 2, "", "", ""), at("0102010", 3, "b a A", "", "B* z y* Z"), {digits("1102"), 2, lists{many(64, 0), many(64, 64), many(64, 128)}}} {
		c, m := s.load(t), modelOf(s)
		for _, x := range wild() {
			for _, y := range wild() {
				p := pid(x, y)
				if !stands(c, p) {
					both(t, c, m, deed{what: "drop", p: p})
					both(t, c, m, deed{what: "push", class: x, p: p})
					both(t, c, m, deed{what: "drop", p: p})
					both(t, c, m, deed{what: "push", class: y, p: p})
					both(t, c, m, deed{what: "drop", p: p})
					both(t, c, m, deed{what: "join", class: x, l: list{{Pid: p}}})
					both(t, c, m, deed{what: "find", p: p})
					both(t, c, m, deed{what: "drop", p: p})
				}
				if y > len(c.Queue(x)) || y < 0 {
					both(t, c, m, deed{what: "cut", class: x, n: y})
				}
				wantNoLoad(t, state{[]int{x, y}, 0, lists{}}, api.ErrWheel)
				if x < 0 || x > 2 {
					wantNoLoad(t, state{[]int{0, 1, 2, x}, y, lists{}}, api.ErrWheel)
					wantNoLoad(t, state{digits("012"), x, lists{}}, api.ErrArg)
				}
			}
			both(t, c, m, deed{what: "queue", class: x})
		}
		holds(t, c, m.state())
	}
}

// What New and Load were given is its giver's: what is written over it, or behind its end, is not seen, and the core writes nothing there.
func TestR3LoadKeepsItsOwn(t *testing.T) {
	for _, s := range states() {
		given := s.copied()
		given.slots = roomy(given.slots, 0, 1, 2, 9)
		for class := range given.queues {
			given.queues[class] = roomy(given.queues[class], entries("Y X* W")...)
		}
		slots := roomy(s.slots, -1, 9)
		whole := func() state {
			w := state{slots: given.slots[:cap(given.slots)]}
			for class, l := range given.queues {
				w.queues[class] = l[:cap(l)]
			}
			return w.copied()
		}
		before := whole()
		c, fresh := given.load(t), begun(t, slots)
		other, m := c.Copy(), modelOf(s)
		for _, d := range deeds() {
			both(t, other, m, d)
		}
		if now := whole(); !slices.Equal(now.slots, before.slots) || !same(now.all(), before.all()) {
			t.Fatal("what was handed in is changed:", now)
		}
		spoil(given.slots, 1)
		spoil(slots, 2)
		for _, l := range given.queues {
			spoil(l, entries("V*")[0])
		}
		knows(t, c, s)
		knows(t, fresh, state{slots: s.slots})
		m, n := modelOf(s), modelOf(state{slots: s.slots})
		for _, d := range deeds() {
			both(t, c, m, d)
			both(t, fresh, n, d)
		}
		knows(t, c, m.state())
		knows(t, fresh, n.state())
		for _, l := range given.queues {
			if i := slices.IndexFunc(l[:cap(l)], func(x api.Entry) bool { return x != entries("V*")[0] }); i >= 0 {
				t.Error("the core writes into what was handed in:", l[:cap(l)][i])
			}
		}
	}
}

// What Join was given is not pinned, not kept, and not read behind its end.
func TestR3JoinKeepsItsOwn(t *testing.T) {
	for n := range 5 {
		for class := range api.Classes {
			c := at("012", 1, "a", "b*", "c").load(t)
			s := at("012", 1, "a", "b*", "c")
			l := roomy(many(n, 500), entries("a a b")...)
			before := slices.Clone(l[:cap(l)])
			wantJoin(t, c, class, l, api.OK)
			if !same(l[:cap(l)], before) {
				t.Fatal("what was handed in is changed:", l[:cap(l)])
			}
			spoil(l, api.Entry{Pid: pid(-5, 5)})
			s = s.with(class, joined(s.queues[class], allPinned(many(n, 500))))
			knows(t, c, s)
			wantPush(t, c, class, who('z'), api.OK)
			c.Pick()
			c.Drop(who('b'))
			if i := slices.IndexFunc(l[:cap(l)], func(x api.Entry) bool { return x.Pid != pid(-5, 5) }); i >= 0 {
				t.Error("the core writes into what was handed in:", l[:cap(l)][i])
			}
		}
	}
	for _, l := range []list{entries("d d"), entries("d a"), many(64, 0)} {
		given := slices.Clone(l)
		if e := at("012", 1, "a", "b*", "c").load(t).Join(0, given); e == api.OK || !same(given, l) {
			t.Error("a refused Join changes what it was given:", e, given)
		}
	}
}

// What Queue and Cut told is their asker's: it may be written over and appended to, and does not change with the core.
func TestR3AnswersAreTheirOwn(t *testing.T) {
	junk := api.Entry{Pid: pid(-9, 9), Pinned: true}
	for _, s := range states() {
		for class := range api.Classes {
			c := s.load(t)
			kept := c.Queue(class)
			q, other := c.Queue(class), c.Copy()
			spoil(q, junk)
			q = append(q, junk)
			knows(t, c, s)
			knows(t, other, s)
			n := (len(kept) + 1) / 2
			keptCut, _ := other.Cut(class, n)
			l, e := c.Cut(class, n)
			want(t, "Cut", e, api.OK)
			spoil(l, junk)
			l = append(l, junk)
			now := s.with(class, kept[:len(kept)-n])
			knows(t, c, now)
			wantJoin(t, c, class, many(n, 7000), api.OK)
			knows(t, c, now.with(class, joined(now.queues[class], allPinned(many(n, 7000)))))
			for range 3 {
				c.Pick()
				other.Pick()
				c.Push(class, who('Y'))
				other.Push(class, who('X'))
			}
			if !same(kept, s.queues[class]) || !same(keptCut, kept[len(kept)-n:]) {
				t.Error("an answer changes with the core, or with another answer:", kept, keptCut)
			}
			for _, a := range []list{q, l} {
				if i := slices.IndexFunc(a, func(x api.Entry) bool { return x != junk }); i >= 0 {
					t.Error("the core writes into an answer:", a[i])
				}
			}
		}
	}
}

// What lies in the spare room of an answer is new, too.
func TestR3SpareRoom(t *testing.T) {
	for _, s := range states() {
		c := s.load(t)
		for class, l := range s.queues {
			q := c.Queue(class)
			cut, _ := c.Cut(class, len(l)/2)
			for _, a := range []list{q, cut, c.Queue(class)} {
				for _, x := range a[len(a):cap(a)] {
					if x != (api.Entry{}) {
						t.Fatal("something lies behind an answer:", x)
					}
				}
			}
		}
	}
}

// A core and its copy, and one that is loaded of what it tells, go their own ways, whatever is done to one of them.
func TestR4Copy(t *testing.T) {
	ds := deeds()
	for _, s := range states() {
		for k := range ds {
			c := s.load(t)
			other, l := c.Copy(), stateOf(c, s.slots).load(t)
			if other == nil || other == c || other == l {
				t.Fatal("Copy:", other, c, l)
			}
			knows(t, other, s)
			m, n, o := modelOf(s), modelOf(s), modelOf(s)
			for i := range ds {
				both(t, c, m, ds[i])
				both(t, other, n, ds[(i*7+k)%len(ds)])
				both(t, l, o, ds[(i*11+k+1)%len(ds)])
			}
			holds(t, c, m.state())
			holds(t, other, n.state())
			holds(t, l, o.state())
		}
	}
}

// One is emptied, the other one filled: neither knows of it, and copies are copied in their turn.
func TestR4CopyOfCopies(t *testing.T) {
	for _, s := range states() {
		c := s.load(t)
		other := c.Copy()
		for !c.Empty() {
			c.Pick()
		}
		knows(t, other, s)
		third := other.Copy()
		for class, l := range s.queues {
			wantJoin(t, other, class, many(64-len(l), 20000+1000*class), api.OK)
		}
		knows(t, third, s)
		if !c.Empty() || third.Hand() != s.hand {
			t.Error("a core changes with its copy:", show(c), show(third))
		}
		fourth := third.Copy()
		wantPush(t, c, 0, who('Y'), api.OK)
		knows(t, fourth, s)
	}
}

// One core knows nothing of another one: the same pids stand in both.
func TestR4CoresKnowNothingOfOneAnother(t *testing.T) {
	slots := digits("0122")
	c, other := begun(t, slots), begun(t, slots)
	wantPush(t, c, 0, who('a'), api.OK)
	knows(t, other, state{slots: slots})
	wantPush(t, other, 2, who('a'), api.OK)
	wantPush(t, other, 0, who('b'), api.OK)
	wantPick(t, other, entries("b")[0], 0, api.OK)
	wantDrop(t, c, who('a'), 0, 0, api.OK)
	knows(t, c, at("0122", 0, "", "", ""))
	knows(t, other, at("0122", 1, "", "", "a"))
}

// The same calls tell the same, run after run.
func TestR4TheSameAgain(t *testing.T) {
	run := func() []int {
		var l []int
		var d draw = 21
		c := at("0102010", 3, "b a A", "", "B* z y* Z").load(t)
		for k := range 2000 {
			x := d.deed(c, k/100)
			switch x.what {
			case "push":
				l = append(l, int(c.Push(x.class, x.p)))
			case "pick":
				y, class, e := c.Pick()
				l = append(l, y.Pid.N, y.Pid.Gen, class, int(e))
			case "drop":
				class, at, e := c.Drop(x.p)
				l = append(l, class, at, int(e))
			case "cut":
				q, e := c.Cut(x.class, x.n)
				l = append(l, len(q), int(e))
			case "join":
				l = append(l, int(c.Join(x.class, x.l)))
			}
			l = append(l, c.Hand())
			for _, y := range stateOf(c, nil).all() {
				l = append(l, y.Pid.N)
			}
		}
		return l
	}
	first := run()
	for range 3 {
		if again := run(); !slices.Equal(again, first) {
			t.Fatal("the same calls tell something else")
		}
	}
}
