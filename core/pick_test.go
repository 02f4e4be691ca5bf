package core_test

import (
	"slices"
	"testing"

	"carousel/api"
	"carousel/wheel"
)

// Of nobody: ErrNone, at each hand, and the hand stays.
func TestP181PickOfNobody(t *testing.T) {
	for _, slots := range wheels() {
		for hand := range slots {
			s := state{slots: slots, hand: hand}
			c := s.load(t)
			for range 3 {
				wantPick(t, c, api.Entry{}, 0, api.ErrNone)
				holds(t, c, s)
			}
			wantPush(t, c, 2, who('a'), api.OK)
			wantPick(t, c, entries("a")[0], 2, api.OK)
			s.hand = (hand + 1) % len(slots)
			wantPick(t, c, api.Entry{}, 0, api.ErrNone)
			holds(t, c, s)
		}
	}
}

// Of one class alone, of two, of all three; with the hand at each slot: layer 2's Next tells which class, and where the hand is then; the first of that class goes out, as it stood there.
func TestP181Pick(t *testing.T) {
	for _, slots := range wheels() {
		for hand := range slots {
			for bits := 1; bits < 8; bits++ {
				s := state{slots: slots, hand: hand}
				var has [api.Classes]bool
				for class := range api.Classes {
					if has[class] = bits>>class&1 == 1; has[class] {
						l := many(1+(hand+bits)%3, 10*class)
						l[0].Pinned = (hand+bits+class)%2 == 0
						s = s.with(class, l)
					}
				}
				c := s.load(t)
				class, next, e := wheel.Next(slots, hand, has)
				want(t, "Next", e, api.OK)
				l := s.queues[class]
				wantPick(t, c, l[0], class, api.OK)
				s.hand = next
				holds(t, c, s.with(class, l[1:]))
			}
		}
	}
}

func TestP181PickSome(t *testing.T) {
	for _, x := range []struct {
		s     state
		picks string
		class string
		hands []int
	}{
		{at("012", 0, "a b", "c d", "e f"), "a c e b d f", "012012", []int{1, 2, 0, 1, 2, 0}},
		{at("012", 1, "a b", "c d", "e f"), "c e a d f b", "120120", []int{2, 0, 1, 2, 0, 1}},
		{at("012", 2, "a b", "c d", "e f"), "e a c f b d", "201201", []int{0, 1, 2, 0, 1, 2}},
		{at("012", 0, "a* b", "", ""), "a* b", "00", []int{1, 2}},
		{at("012", 1, "a b", "", "c* d*"), "c* d* a b", "2200", []int{2, 0, 1, 2}},
		{at("012", 0, "", "c d", "e"), "c d e", "112", []int{1, 2, 0}},
		{at("0102010", 0, "a b c d", "e f", "g"), "a e b g c f d", "0102010", []int{1, 2, 3, 4, 5, 6, 0}},
		{at("0102010", 5, "a b c d", "e f", "g"), "e a b f c g d", "1001020", []int{6, 0, 1, 2, 3, 4, 5}},
		{at("0102010", 3, "a b", "c*", ""), "a b c*", "001", []int{4, 5, 6}},
		{at("0102010", 6, "", "", "a* A B*"), "a* A B*", "222", []int{0, 1, 2}},
	} {
		c := x.s.load(t)
		for i, y := range entries(x.picks) {
			wantPick(t, c, y, int(x.class[i]-'0'), api.OK)
			if c.Hand() != x.hands[i] {
				t.Errorf("%v: behind pick %d the hand is at %d", x, i, c.Hand())
			}
		}
		wantPick(t, c, api.Entry{}, 0, api.ErrNone)
		if !c.Empty() {
			t.Error(x, show(c))
		}
	}
}

// Who came of Push is not pinned; who was joined, or loaded as pinned, comes out pinned; who was cut and pushed does not.
func TestP181PickOfPins(t *testing.T) {
	c := at("012", 0, "a* b", "", "c").load(t)
	wantPush(t, c, 0, who('d'), api.OK)
	wantJoin(t, c, 0, entries("e f*"), api.OK)
	wantPush(t, c, 0, who('g'), api.OK)
	wantJoin(t, c, 2, entries("h"), api.OK)
	wantCut(t, c, 2, 1, entries("h*"), api.OK)
	wantPush(t, c, 2, who('h'), api.OK)
	for i, x := range entries("a* c h b d e* f* g") {
		if y, _, e := c.Pick(); y != x || e != api.OK {
			t.Errorf("Pick %d: %v, %d, not %v", i, y, e, x)
		}
	}
	wantPick(t, c, api.Entry{}, 0, api.ErrNone)
}

// Around the end of the slots, again and again, with classes that never run out: each is served as its slots have it.
func TestP181PickAroundTheEnd(t *testing.T) {
	for _, slots := range wheels() {
		c := state{slots, len(slots) - 1, lists{many(3, 10), many(3, 20), many(3, 30)}}.load(t)
		for k := range 3 * len(slots) {
			x, class, e := c.Pick()
			if i := (len(slots) - 1 + k) % len(slots); e != api.OK || class != slots[i] || c.Hand() != (i+1)%len(slots) {
				t.Fatalf("%v: pick %d: %v, %d, %d, the hand at %d", slots, k, x, class, e, c.Hand())
			}
			wantPush(t, c, class, x.Pid, api.OK)
		}
	}
}

// Nothing but Pick moves the hand.
func TestP181OnlyPickMovesTheHand(t *testing.T) {
	for _, slots := range wheels() {
		for hand := range slots {
			c := state{slots, hand, lists{entries("a b c"), entries("d"), nil}}.load(t)
			hands := []int{c.Hand()}
			asked := func() { hands = append(hands, c.Hand()) }
			c.Push(1, who('e'))
			asked()
			c.Drop(who('b'))
			asked()
			c.Find(who('a'))
			asked()
			l, _ := c.Cut(0, 2)
			asked()
			c.Join(2, l)
			asked()
			c.Queue(1)
			c.Empty()
			c.Copy().Pick()
			c.Push(1, who('e'))
			c.Cut(1, 65)
			c.Join(0, l)
			asked()
			if i := slices.IndexFunc(hands, func(h int) bool { return h != hand }); i >= 0 {
				t.Errorf("%v: from hand %d on: %v", slots, hand, hands)
			}
		}
	}
}
