package core_test

import (
	"testing"

	"carousel/api"
)

// Of each queue each number of the last ones: they, in order, pinned or not as they were; those ahead stay.
func TestP182Cut(t *testing.T) {
	for _, s := range states() {
		for class, l := range s.queues {
			for n := range len(l) + 1 {
				c := s.load(t)
				wantCut(t, c, class, n, l[len(l)-n:], api.OK)
				holds(t, c, s.with(class, l[:len(l)-n]))
				wantCut(t, c, class, len(l)-n+1, nil, api.ErrNone)
				wantCut(t, c, class, 0, nil, api.OK)
				if n < 3 || n > len(l)-2 {
					knows(t, c, s.with(class, l[:len(l)-n]))
				}
				for _, x := range l[len(l)-n:] {
					wantNobody(t, c, x.Pid)
				}
			}
		}
	}
}

func TestP182CutSome(t *testing.T) {
	for _, x := range []struct {
		class, n int
		l        string
		f        api.Errno
		then     state
	}{
		{0, 0, "", api.OK, at("012", 1, "a b* c", "d", "e* f")},
		{0, 1, "c", api.OK, at("012", 1, "a b*", "d", "e* f")},
		{0, 2, "b* c", api.OK, at("012", 1, "a", "d", "e* f")},
		{0, 3, "a b* c", api.OK, at("012", 1, "", "d", "e* f")},
		{0, 4, "", api.ErrNone, at("012", 1, "a b* c", "d", "e* f")},
		{1, 1, "d", api.OK, at("012", 1, "a b* c", "", "e* f")},
		{1, 2, "", api.ErrNone, at("012", 1, "a b* c", "d", "e* f")},
		{2, 2, "e* f", api.OK, at("012", 1, "a b* c", "d", "")},
		{2, 1, "f", api.OK, at("012", 1, "a b* c", "d", "e*")},
		{2, -1, "", api.ErrArg, at("012", 1, "a b* c", "d", "e* f")},
		{3, 1, "", api.ErrArg, at("012", 1, "a b* c", "d", "e* f")},
		{-1, 0, "", api.ErrArg, at("012", 1, "a b* c", "d", "e* f")},
	} {
		c := at("012", 1, "a b* c", "d", "e* f").load(t)
		wantCut(t, c, x.class, x.n, entries(x.l), x.f)
		knows(t, c, x.then)
	}
}

// A number below 0, or a class that there is not, is ErrArg, also where there are not so many; more than there are is ErrNone.
func TestP182CutRefused(t *testing.T) {
	for _, s := range states() {
		c := s.load(t)
		for class, l := range s.queues {
			for _, n := range []int{-1, -2, -64, -1 << 32, api.MinInt, least + 1, least} {
				wantCut(t, c, class, n, nil, api.ErrArg)
			}
			for _, n := range []int{len(l) + 1, len(l) + 2, 65, 128, 1 << 16, 1 << 32, 1<<32 + 1, 1 << 62, api.MaxInt, most - 1, most} {
				wantCut(t, c, class, n, nil, api.ErrNone)
			}
		}
		for _, class := range noClasses() {
			for _, n := range []int{least, -1, 0, 1, 64, 65, most} {
				wantCut(t, c, class, n, nil, api.ErrArg)
			}
		}
		knows(t, c, s)
	}
}

// Some join each queue of each core: behind those that are there, in order, all pinned, whatever the list said.
func TestP182Join(t *testing.T) {
	for _, s := range states() {
		for class, l := range s.queues {
			for _, n := range []int{0, 1, 2, 5, 63, 64, 65} {
				more := many(n, 7000)
				c := s.load(t)
				if len(l)+n > 64 {
					wantJoin(t, c, class, more, api.ErrFull)
					holds(t, c, s)
					continue
				}
				wantJoin(t, c, class, more, api.OK)
				knows(t, c, s.with(class, joined(l, allPinned(more))))
				for _, x := range more {
					wantPush(t, c, class, x.Pid, api.ErrArg)
				}
			}
		}
	}
}

func TestP182JoinSome(t *testing.T) {
	s := at("0102010", 5, "a b*", "c", "")
	for _, x := range []struct {
		class int
		l     string
		f     api.Errno
		then  state
	}{
		{0, "", api.OK, s},
		{0, "d", api.OK, at("0102010", 5, "a b* d*", "c", "")},
		{0, "d* e", api.OK, at("0102010", 5, "a b* d* e*", "c", "")},
		{1, "e d A*", api.OK, at("0102010", 5, "a b*", "c e* d* A*", "")},
		{2, "z y x", api.OK, at("0102010", 5, "a b*", "c", "z* y* x*")},
		{0, "a", api.ErrArg, s},      // in that queue
		{1, "d a", api.ErrArg, s},    // in another one
		{2, "c*", api.ErrArg, s},     // the same
		{2, "d b e", api.ErrArg, s},  // between others
		{1, "d d", api.ErrArg, s},    // twice in the list
		{1, "d e d*", api.ErrArg, s}, // the same, pinned once
		{2, "d* e e* f", api.ErrArg, s},
		{3, "", api.ErrArg, s},
		{-1, "d", api.ErrArg, s},
		{2, "A B C D", api.OK, at("0102010", 5, "a b*", "c", "A* B* C* D*")},
	} {
		c := s.load(t)
		wantJoin(t, c, x.class, entries(x.l), x.f)
		knows(t, c, x.then)
	}
}

// With so many the queue is just full; with one more they are refused, all of them.
func TestP182JoinUpToTheEnd(t *testing.T) {
	for class := range api.Classes {
		for here := range 65 {
			s := state{slots: digits("012")}.with(class, many(here, 0)).with((class+1)%3, many(64, 200)).with((class+2)%3, many(64-here, 400))
			c := s.load(t)
			for _, n := range []int{65 - here, 66 - here, 64, 65, 128, 1000} {
				if here+n > 64 {
					wantJoin(t, c, class, many(n, 1000), api.ErrFull)
				}
			}
			holds(t, c, s)
			rest := many(64-here, 1000)
			wantJoin(t, c, class, rest, api.OK)
			holds(t, c, s.with(class, joined(s.queues[class], allPinned(rest))))
			wantJoin(t, c, class, nil, api.OK)
			wantJoin(t, c, class, entries("a"), api.ErrFull)
			wantPush(t, c, class, who('a'), api.ErrFull)
			knows(t, c, s.with(class, joined(s.queues[class], allPinned(rest))))
		}
	}
}

func TestP182JoinOfNoClass(t *testing.T) {
	for _, s := range states() {
		c := s.load(t)
		for _, class := range noClasses() {
			for _, l := range []list{nil, entries("Z"), many(64, 7000), many(65, 7000), s.queues[0], s.queues[1]} {
				wantJoin(t, c, class, l, api.ErrArg)
			}
		}
		holds(t, c, s)
	}
}

// Of a list that is too long, and names somebody who stands there, or twice: ErrArg, wherever in the list that is, however long it is.
func TestP182JoinTellsTheFirstError(t *testing.T) {
	s := state{digits("012"), 2, lists{many(63, 1), entries("a b*"), many(64, 100)}}
	for _, n := range []int{2, 65, 66, 1000, 1 << 17} {
		more := many(n, 1000)
		for _, i := range []int{0, 1, n / 2, n - 1} {
			for _, p := range []api.Pid{pid(1, 7), pid(63, 7), who('b'), pid(163, 7), more[(i+1)%n].Pid} {
				l := joined(more[:i], list{{Pid: p, Pinned: i == 0}}, more[i+1:])
				c := s.load(t)
				for class := range api.Classes {
					wantJoin(t, c, class, l, api.ErrArg)
				}
				wantJoin(t, c, 3, l, api.ErrArg)
				holds(t, c, s)
			}
		}
		c := s.load(t)
		for _, class := range []int{0, 2} {
			wantJoin(t, c, class, more, api.ErrFull)
		}
		wantJoin(t, c, -1, more, api.ErrArg)
		holds(t, c, s)
	}
}

// One who stands there is found at each place of each queue, and each two places of a list are held against each other.
func TestP182JoinOfWhoStandsThere(t *testing.T) {
	for _, s := range states() {
		c := s.load(t)
		for _, x := range s.all() {
			for class := range api.Classes {
				wantJoin(t, c, class, list{x}, api.ErrArg)
				wantJoin(t, c, class, joined(entries("X Y*"), list{{Pid: x.Pid, Pinned: !x.Pinned}}), api.ErrArg)
			}
		}
		for i := range 5 {
			for j := range i {
				l := many(5, 7000)
				l[j].Pid = l[i].Pid
				wantJoin(t, c, 1, l, api.ErrArg)
				l = many(100, 7000)
				l[20*j+3].Pid = l[20*i].Pid
				wantJoin(t, c, 2, l, api.ErrArg)
			}
		}
		holds(t, c, s)
	}
}

// Behind a refused Join those who were not taken may come, each one.
func TestP182BehindARefusedJoin(t *testing.T) {
	c := at("012", 0, "a", "b", "").load(t)
	wantJoin(t, c, 0, entries("c d c"), api.ErrArg)
	wantJoin(t, c, 0, entries("c d b"), api.ErrArg)
	wantJoin(t, c, 0, joined(entries("c d"), many(62, 7000)), api.ErrFull)
	wantPush(t, c, 2, who('c'), api.OK)
	wantJoin(t, c, 2, entries("d"), api.OK)
	wantJoin(t, c, 0, many(63, 7000), api.OK)
	knows(t, c, state{digits("012"), 0, lists{joined(entries("a"), allPinned(many(63, 7000))), entries("b"), entries("c d*")}})
}

// From one core to another one go those who were cut; each of both knows of its own alone.
func TestP182FromCoreToCore(t *testing.T) {
	victim, thief := at("012", 0, "a b c", "", "d* e f g").load(t), at("210", 2, "", "A B", "").load(t)
	l, e := victim.Cut(2, 2)
	want(t, "Cut", e, api.OK)
	wantJoin(t, thief, 2, l, api.OK)
	l, e = victim.Cut(0, 1)
	want(t, "Cut", e, api.OK)
	wantJoin(t, thief, 1, l, api.OK)
	knows(t, victim, at("012", 0, "a b", "", "d* e"))
	knows(t, thief, at("210", 2, "", "A B c*", "f* g*"))
	wantJoin(t, thief, 0, entries("a"), api.OK)
	wantPush(t, victim, 2, who('g'), api.OK)
}
