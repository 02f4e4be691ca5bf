package core_test

import (
	"slices"
	"testing"

	"carousel/api"
	"carousel/core"
	"carousel/wheel"
)

func TestExamples(t *testing.T) {
	a, b, d := who('a'), who('b'), who('c')
	c := begun(t, digits("012"))
	wantPush(t, c, 2, a, api.OK)
	wantPush(t, c, 0, b, api.OK)
	wantPush(t, c, 2, d, api.OK)
	for i, x := range []struct {
		p     api.Pid
		class int
	}{{b, api.High}, {a, api.Low}, {d, api.Low}} {
		wantPick(t, c, api.Entry{Pid: x.p}, x.class, api.OK)
		if c.Hand() != (i+1)%3 {
			t.Error("behind", i, "the hand is at", c.Hand())
		}
	}
	wantPick(t, c, api.Entry{}, 0, api.ErrNone)

	wantPush(t, c, 0, a, api.OK)
	wantPush(t, c, 1, a, api.ErrArg)
	wantCut(t, c, 0, 1, entries("a"), api.OK)
	wantJoin(t, c, 1, entries("a"), api.OK)
	holds(t, c, at("012", 0, "", "a*", ""))
	wantDrop(t, c, a, 1, 0, api.OK)
}

func TestP181New(t *testing.T) {
	for _, slots := range wheels() {
		want(t, "Check", wheel.Check(slots), api.OK)
		c := begun(t, slots)
		knows(t, c, state{slots: slots})
		if !c.Empty() || c.Hand() != 0 || len(c.Queue(0))+len(c.Queue(1))+len(c.Queue(2)) > 0 {
			t.Error("New has somebody, or a hand:", show(c))
		}
		if other := begun(t, slots); other == c {
			t.Error("New gives one core twice")
		}
		for class := range api.Classes {
			wantPush(t, c, class, pid(class, 1), api.OK)
		}
		knows(t, c, state{slots, 0, lists{{{Pid: pid(0, 1)}}, {{Pid: pid(1, 1)}}, {{Pid: pid(2, 1)}}}})
	}
}

func TestP181NewOfNoWheel(t *testing.T) {
	for _, slots := range noWheels() {
		want(t, "Check", wheel.Check(slots), api.ErrWheel)
		if c, e := core.New(slots); c != nil || e != api.ErrWheel {
			t.Errorf("New(%v): %v, %d", slots, c, e)
		}
	}
}

// All slots of up to five, classes that there are not among them.
func TestP181NewOfAllShortSlots(t *testing.T) {
	var row func(slots []int)
	row = func(slots []int) {
		c, e := core.New(slots)
		if e != wheel.Check(slots) || (c != nil) != (e == api.OK) {
			t.Fatalf("New(%v): %v, %d", slots, c, e)
		}
		if c != nil {
			knows(t, c, state{slots: slots})
		}
		if len(slots) == 5 {
			return
		}
		for class := -1; class <= 3; class++ {
			row(append(slices.Clone(slots), class))
		}
	}
	row(nil)
}
