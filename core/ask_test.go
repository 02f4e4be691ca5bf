package core_test

import (
	"testing"

	"carousel/api"
)

func TestP183Queue(t *testing.T) {
	for _, s := range states() {
		c := s.load(t)
		for range 2 {
			for class, l := range s.queues {
				if q := c.Queue(class); !same(q, l) {
					t.Errorf("Queue(%d): %v, not %v", class, q, l)
				}
			}
			for _, class := range noClasses() {
				if q := c.Queue(class); len(q) > 0 {
					t.Errorf("Queue(%d): %v", class, q)
				}
			}
		}
		knows(t, c, s)
	}
}

// Empty and Hand behind each kind of call, and behind each that is refused.
func TestP183EmptyAndHandBehindEachCall(t *testing.T) {
	c := begun(t, digits("0102"))
	for i, x := range []struct {
		d     deed
		f     api.Errno
		empty bool
		hand  int
	}{
		{deed{what: "queue"}, api.OK, true, 0},
		{deed{what: "pick"}, api.ErrNone, true, 0},
		{deed{what: "drop", p: who('a')}, api.ErrNone, true, 0},
		{deed{what: "find", p: who('a')}, api.ErrNone, true, 0},
		{deed{what: "cut", class: 1}, api.OK, true, 0},
		{deed{what: "cut", class: 1, n: 1}, api.ErrNone, true, 0},
		{deed{what: "join", class: 1}, api.OK, true, 0},
		{deed{what: "join", class: 1, l: entries("a a")}, api.ErrArg, true, 0},
		{deed{what: "join", class: 1, l: many(65, 0)}, api.ErrFull, true, 0},
		{deed{what: "push", class: 3, p: who('a')}, api.ErrArg, true, 0},
		{deed{what: "push", class: 2, p: who('a')}, api.OK, false, 0},
		{deed{what: "find", p: who('a')}, api.OK, false, 0},
		{deed{what: "push", class: 0, p: who('a')}, api.ErrArg, false, 0},
		{deed{what: "pick"}, api.OK, true, 1},
		{deed{what: "pick"}, api.ErrNone, true, 1},
		{deed{what: "push", class: 1, p: who('a')}, api.OK, false, 1},
		{deed{what: "drop", p: who('b')}, api.ErrNone, false, 1},
		{deed{what: "drop", p: who('a')}, api.OK, true, 1},
		{deed{what: "join", class: 0, l: entries("a b")}, api.OK, false, 1},
		{deed{what: "cut", class: 0, n: 1}, api.OK, false, 1},
		{deed{what: "cut", class: 0, n: 1}, api.OK, true, 1},
		{deed{what: "join", class: 2, l: entries("a b c")}, api.OK, false, 1},
		{deed{what: "pick"}, api.OK, false, 2},
		{deed{what: "pick"}, api.OK, false, 3},
		{deed{what: "push", class: 0, p: who('d')}, api.OK, false, 3},
		{deed{what: "pick"}, api.OK, false, 0},
		{deed{what: "pick"}, api.OK, true, 1},
	} {
		m := modelOf(stateOf(c, digits("0102")))
		if e := both(t, c, m, x.d); e != x.f || c.Empty() != x.empty || c.Hand() != x.hand {
			t.Fatalf("call %d, %v: %d, Empty %v, Hand %d", i, x.d, e, c.Empty(), c.Hand())
		}
	}
}

// One actor of any class, and the core is not empty.
func TestP183Empty(t *testing.T) {
	for class := range api.Classes {
		c := begun(t, digits("012"))
		wantPush(t, c, class, pid(0, 0), api.OK)
		if c.Empty() {
			t.Error("Empty, with one of class", class)
		}
		wantDrop(t, c, pid(0, 0), class, 0, api.OK)
		if !c.Empty() {
			t.Error("not Empty, with nobody of class", class)
		}
		c = state{slots: digits("012")}.with(class, many(64, 0)).load(t)
		if c.Empty() {
			t.Error("Empty, with 64 of class", class)
		}
		wantCut(t, c, class, 64, many(64, 0), api.OK)
		if !c.Empty() {
			t.Error("not Empty, with nobody left of class", class)
		}
	}
}
