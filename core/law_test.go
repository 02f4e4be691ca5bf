package core_test

import (
	"testing"

	"carousel/api"
	"carousel/core"
	"carousel/wheel"
)

// bound is the greatest number of picks by which one who stands somewhere is picked: one more than stand ahead of it, times the class's Gap.
func bound(t *testing.T, c *core.Core, slots []int, p api.Pid) int {
	t.Helper()
	class, ahead, e := c.Find(p)
	want(t, "Find", e, api.OK)
	gap, e := wheel.Gap(slots, class)
	want(t, "Gap", e, api.OK)
	if gap > len(slots) {
		t.Fatalf("Gap(%v, %d): %d", slots, class, gap)
	}
	return (ahead + 1) * gap
}

// wantServed picks till an actor is picked: behind how many picks that is. Ahead of each pick, and behind it, something else is done meanwhile.
func wantServed(t *testing.T, c *core.Core, slots []int, p api.Pid, ahead func(), behind func(x api.Entry, class int)) int {
	t.Helper()
	picks := bound(t, c, slots, p)
	for i := range picks {
		ahead()
		x, class, e := c.Pick()
		if e != api.OK {
			t.Fatal("Pick:", e)
		}
		if x.Pid == p {
			return i + 1
		}
		behind(x, class)
	}
	t.Fatalf("%v: %v is not picked by one of %d picks: %s", slots, p, picks, show(c))
	return 0
}

func nothing() {}

// again lets who was picked come again at once: no queue ever becomes shorter.
func again(t *testing.T, c *core.Core) func(x api.Entry, class int) {
	return func(x api.Entry, class int) { wantPush(t, c, class, x.Pid, api.OK) }
}

func away(api.Entry, int) {}

// Each class, with the hand at each slot, with so many ahead: others wait always, one of them does, or none.
func TestP184Served(t *testing.T) {
	for _, slots := range wheels() {
		for class := range api.Classes {
			for _, ahead := range []int{0, 1, 2, 5, 63} {
				if ahead > 5 && len(slots) > 10 {
					continue
				}
				for hand := range slots {
					for _, others := range [][2]int{{0, 0}, {64, 0}, {0, 64}, {64, 64}, {1, 1}, {3, 64}} {
						s := state{slots: slots, hand: hand}.with(class, many(64, 100)).with((class+1)%3, many(others[0], 200)).with((class+2)%3, many(others[1], 300))
						p := s.queues[class][ahead].Pid
						c := s.load(t)
						wantServed(t, c, slots, p, nothing, again(t, c))
						c = s.load(t)
						wantServed(t, c, slots, p, nothing, away)
					}
				}
			}
		}
	}
}

// Who stands first, while all others wait, waits for as long as Gap tells at some hand, and never longer.
func TestP184TheLongestWaitIsGap(t *testing.T) {
	for _, slots := range wheels() {
		for class := range api.Classes {
			longest := 0
			for hand := range slots {
				c := state{slots, hand, lists{many(64, 0), many(64, 100), many(64, 200)}}.load(t)
				longest = max(longest, wantServed(t, c, slots, c.Queue(class)[0].Pid, nothing, again(t, c)))
			}
			if gap, _ := wheel.Gap(slots, class); longest != gap {
				t.Errorf("%v: the first one of class %d waits for %d picks at most, not %d", slots, class, longest, gap)
			}
		}
	}
}

// On a wheel with one slot for each class the wait is as long as it may be, behind however many.
func TestP184TheLongestWaitOfAll(t *testing.T) {
	for class := range api.Classes {
		for ahead := range 64 {
			c := state{digits("012"), (class + 1) % 3, lists{many(64, 0), many(64, 100), many(64, 200)}}.load(t)
			if n := wantServed(t, c, digits("012"), c.Queue(class)[ahead].Pid, nothing, again(t, c)); n != 3*(ahead+1) {
				t.Errorf("behind %d of class %d: picked by pick %d", ahead, class, n)
			}
		}
	}
}

// wheel is a drawn one.
func (d *draw) wheel() []int {
	slots := make([]int, d.of([]int{3, 4, 5, 7, 9, 20, 63, 64}))
	for i := range slots {
		slots[i] = d.of([]int{0, 0, 0, 0, 1, 1, 1, 2})
	}
	for class := range api.Classes {
		slots[(d.below(len(slots)/3)+class*len(slots)/3)%len(slots)] = class
	}
	return slots
}

// meanwhile does something to a core by which an actor stays: others come, one by one or many, into whichever queue; some of those behind it, or of other queues, go.
func (d *draw) meanwhile(c *core.Core, p api.Pid, fresh *int) {
	class, at, _ := c.Find(p)
	k := d.below(3)
	switch d.below(10) {
	case 0:
		n := d.below(20)
		c.Join(k, many(n, *fresh))
		*fresh += n
	case 1:
		n := len(c.Queue(k))
		if k == class {
			n -= at + 1
		}
		c.Cut(k, d.below(n+1))
	case 2:
		if q := c.Queue(k); len(q) > 0 {
			if x := q[d.below(len(q))]; x.Pid != p {
				c.Drop(x.Pid)
			}
		}
	default:
		for range d.below(4) {
			c.Push(d.below(3), pid(*fresh, 3))
			*fresh++
		}
	}
}

// Drawn wheels, hands and queues; whatever is done meanwhile.
func TestP184ServedWhateverIsPushed(t *testing.T) {
	var d draw = 184
	fresh := 1000
	for range 3000 {
		slots := d.wheel()
		want(t, "Check", wheel.Check(slots), api.OK)
		s := state{slots, d.below(len(slots)), lists{many(d.below(65), 0), many(d.below(65), 100), many(d.below(65), 200)}}
		all := s.all()
		if len(all) == 0 {
			continue
		}
		c := s.load(t)
		p := all[d.below(len(all))].Pid
		wantServed(t, c, slots, p, func() { d.meanwhile(c, p, &fresh) }, func(x api.Entry, class int) {
			if d.below(2) == 0 {
				c.Push(class, x.Pid)
			}
		})
	}
}

// Of one class who comes first is picked first, however it came, and whatever stands in the others.
func TestP185WhoComesFirst(t *testing.T) {
	for class := range api.Classes {
		for _, slots := range wheels() {
			c := begun(t, slots)
			var l list
			for k := range 20 {
				more := many(k%4, 100*k)
				wantJoin(t, c, class, more, api.OK)
				wantPush(t, c, (class+1)%3, pid(k, 2), api.OK)
				wantPush(t, c, class, pid(k, 1), api.OK)
				wantPush(t, c, (class+2)%3, pid(k, 3), api.OK)
				l = append(append(l, allPinned(more)...), api.Entry{Pid: pid(k, 1)})
				if k%2 == 1 {
					l = wantFirst(t, c, class, l)
				}
			}
			for !c.Empty() {
				l = wantFirst(t, c, class, l)
			}
			if len(l) > 0 {
				t.Fatalf("%v are never picked", l)
			}
		}
	}
}

// wantFirst picks, and asks, if it is of a class, whether it is the first one of a list: those of it who are left.
func wantFirst(t *testing.T, c *core.Core, class int, l list) list {
	t.Helper()
	x, k, e := c.Pick()
	want(t, "Pick", e, api.OK)
	if k != class {
		return l
	}
	if len(l) == 0 || x != l[0] {
		t.Fatalf("%v is picked, of %v", x, l)
	}
	return l[1:]
}

// Cut and then Join of what it told leaves the queues as they were, but for the pins: of each queue, each number.
func TestP185CutAndJoin(t *testing.T) {
	for _, s := range states() {
		c := s.load(t)
		for class, l := range s.queues {
			for n := range len(l) + 1 {
				if n < 4 || n > len(l)-3 || n%16 == 0 {
					cutAndJoin(t, c, class, n)
				}
			}
		}
		knows(t, c, s)
	}
}

// Whatever comes in whatever way, of few pids, nobody stands twice.
func TestP186NobodyTwice(t *testing.T) {
	var d draw = 186
	for range 300 {
		ss := states()
		c := ss[d.below(len(ss))].load(t)
		for range 60 {
			class, l := d.below(3), entries("a b c d e A B")
			switch d.below(5) {
			case 0, 1:
				c.Push(class, l[d.below(7)].Pid)
			case 2:
				c.Join(class, list{l[d.below(7)], l[d.below(7)]})
			case 3:
				c.Pick()
			case 4:
				q, _ := c.Cut(class, d.below(3))
				c.Join(d.below(3), q)
				c.Join(d.below(3), q)
			}
			wantP186(t, stateOf(c, nil))
		}
	}
}
