package homes_test

import (
	"slices"
	"testing"

	"carousel/api"
	"carousel/homes"
)

// notGiven are accounts that neither New nor Copy gave.
func notGiven(t *testing.T) map[string]*homes.Accounts {
	t.Helper()
	byHand, empty := *odd(3).made(t), *begun(t, 16)
	refused, _ := homes.New(17)
	var none *homes.Accounts
	return map[string]*homes.Accounts{"nil": nil, "zero": {}, "copied by hand": &byHand, "empty ones copied by hand": &empty, "refused by New": refused, "a copy of nil": none.Copy(), "a copy of zero": (&homes.Accounts{}).Copy(), "a copy of such as were copied by hand": byHand.Copy()}
}

func TestR1OfAccountsThatWereNotGiven(t *testing.T) {
	for name, a := range notGiven(t) {
		for range 2 {
			for _, core := range wild() {
				for _, class := range []int{least, -1, 0, 1, 2, 3, most} {
					want(t, name+": Take", a.Take(core, class), api.ErrArg)
					want(t, name+": Give", a.Give(core, class), api.ErrArg)
					if n := a.Count(core, class); n != 0 {
						t.Errorf("%s: Count(%d, %d): %d", name, core, class, n)
					}
					for _, n := range []int{least, -1, 0, 1, 64, most} {
						want(t, name+": Move", a.Move(core, 0, class, n), api.ErrArg)
						want(t, name+": Move", a.Move(0, core, class, n), api.ErrArg)
						want(t, name+": Move", a.Move(core, core, class, n), api.ErrArg)
					}
				}
				if room := a.Room(core); room != (row{}) {
					t.Errorf("%s: Room(%d): %v", name, core, room)
				}
				if k, e := a.Least(core); k != 0 || e != api.ErrArg {
					t.Errorf("%s: Least(%d): %d, %d", name, core, k, e)
				}
			}
			if c := a.Copy(); c != nil {
				t.Errorf("%s: Copy: %v", name, c)
			}
		}
	}
}

// Accounts go on as they did when a struct that was copied of them by hand is used.
func TestR1CopiedByHandChangesNothing(t *testing.T) {
	for _, s := range states() {
		a := s.made(t)
		b := *a
		b.Take(0, 0)
		b.Give(0, 2)
		b.Move(0, len(s)-1, 1, 1)
		holds(t, a, s)
	}
}

// No call panics, and all end, at ints of all kinds; a call that is refused changes nothing.
func TestR1AllKindsOfArguments(t *testing.T) {
	for _, s := range []state{alike(1, row{64, 0, 1}), odd(2), odd(16)} {
		a, m := s.made(t), modelOf(s)
		for _, x := range wild() {
			for _, y := range wild() {
				for _, d := range []deed{{"take", x, 0, y, 0}, {"give", x, 0, y, 0}, {"count", x, 0, y, 0}, {"room", x, 0, 0, 0}, {"least", 0, 0, y, 0}} {
					both(t, a, m, d)
				}
				for _, z := range wild() {
					both(t, a, m, deed{"move", x, y, 1, z})
					both(t, a, m, deed{"move", x, 0, y, z})
				}
			}
			holds(t, a, m.state())
		}
	}
}

// What Room tells is its asker's: it does not change with the accounts, nor they with it.
func TestR3RoomIsItsOwn(t *testing.T) {
	for _, s := range states() {
		a := s.made(t)
		for core := range s {
			first, second := a.Room(core), a.Room(core)
			first[0], first[1], first[2] = 99, -99, 99
			holds(t, a, s)
			kept := second
			a.Give(core, 0)
			a.Take(core, 2)
			a.Take(core, 0)
			a.Give(core, 2)
			if second != kept || first != (row{99, -99, 99}) {
				t.Error("an answer changes:", first, second)
			}
			a = s.made(t)
		}
	}
}

// What is done with the one is not seen in the other, whichever it is.
func TestR4Copy(t *testing.T) {
	for _, s := range states() {
		a := s.made(t)
		c := a.Copy()
		if c == nil || c == a {
			t.Fatal("Copy:", c, a)
		}
		holds(t, c, s)
		for core := range s {
			for class := range api.Classes {
				for range 65 {
					a.Give(core, class)
				}
			}
		}
		holds(t, a, alike(len(s), row{}))
		holds(t, c, s)
		d := c.Copy()
		for core := range s {
			for class := range api.Classes {
				for range 65 {
					c.Take(core, class)
				}
			}
		}
		holds(t, a, alike(len(s), row{}))
		holds(t, c, alike(len(s), row{64, 64, 64}))
		holds(t, d, s)
	}
}

// A copy has as many cores, takes and gives and moves by itself, and is copied in its turn.
func TestR4CopyGoesOnByItself(t *testing.T) {
	s := state{{3, 64, 0}, {60, 0, 64}, {1, 2, 3}}
	a := s.made(t)
	c := a.Copy()
	wantMove(t, a, 0, 1, api.High, 3, api.OK)
	wantMove(t, c, 0, 1, api.High, 4, api.ErrNone)
	wantMove(t, c, 1, 0, api.High, 60, api.OK)
	wantTake(t, a, 0, api.Normal, api.ErrQueue)
	wantGive(t, a, 0, api.Normal, api.OK)
	wantTake(t, c, 0, api.Normal, api.ErrQueue)
	wantTake(t, c, 3, api.Normal, api.ErrArg)
	d := c.Copy()
	wantGive(t, c, 2, api.Low, api.OK)
	holds(t, a, state{{0, 63, 0}, {63, 0, 64}, {1, 2, 3}})
	holds(t, c, state{{63, 64, 0}, {0, 0, 64}, {1, 2, 2}})
	holds(t, d, state{{63, 64, 0}, {0, 0, 64}, {1, 2, 3}})
}

// Accounts know nothing of one another.
func TestR4AccountsKnowNothingOfOneAnother(t *testing.T) {
	a, b, c := begun(t, 2), begun(t, 2), begun(t, 16)
	for range 64 {
		wantTake(t, a, 1, api.Low, api.OK)
	}
	wantTake(t, a, 1, api.Low, api.ErrQueue)
	wantGive(t, b, 1, api.Low, api.ErrNone)
	wantTake(t, b, 1, api.Low, api.OK)
	wantTake(t, b, 2, api.Low, api.ErrArg)
	wantTake(t, c, 2, api.Low, api.OK)
	holds(t, a, state{{}, {0, 0, 64}})
	holds(t, b, state{{}, {0, 0, 1}})
	holds(t, c, alike(16, row{}).with(2, 2, 1))
}

// The same calls tell the same, run after run.
func TestR4TheSameAgain(t *testing.T) {
	run := func() []int {
		var l []int
		var d draw = 21
		a := odd(5).made(t)
		for k := range 2000 {
			x := d.deed(5, k/100)
			switch x.what {
			case "take":
				l = append(l, int(a.Take(x.core, x.class)))
			case "give":
				l = append(l, int(a.Give(x.core, x.class)))
			case "move":
				l = append(l, int(a.Move(x.core, x.to, x.class, x.n)))
			}
			core, e := a.Least(x.class)
			room := a.Room(x.core)
			l = append(append(l, core, int(e), a.Count(x.core, x.class)), room[:]...)
		}
		return l
	}
	first := run()
	for range 5 {
		if again := run(); !slices.Equal(again, first) {
			t.Fatal("the same calls tell something else")
		}
	}
}
