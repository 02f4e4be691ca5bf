package homes_test

import (
	"slices"
	"testing"

	"carousel/api"
	"carousel/homes"
)

// sums are how many there are of each class, at all cores together.
func (s state) sums() row {
	var all row
	for _, r := range s {
		for class, n := range r {
			all[class] += n
		}
	}
	return all
}

// wantHo4 asks of accounts, behind a call and what it told, what holds of each: no count leaves its bounds, Move changes no class's sum, Take and Give change one count by one, and all else, and what is refused, changes nothing.
func wantHo4(t *testing.T, a *homes.Accounts, before state, d deed, e api.Errno) {
	t.Helper()
	now := stateOf(a, len(before))
	for _, r := range now {
		if slices.Min(r[:]) < 0 || slices.Max(r[:]) > 64 {
			t.Fatalf("%v: %v", d, now)
		}
	}
	then := before
	switch {
	case e == api.OK && d.what == "move":
		if now.sums() != before.sums() {
			t.Fatalf("%v: %v has other sums than %v", d, now, before)
		}
		return
	case e == api.OK && d.what == "take":
		then = before.with(d.core, d.class, before[d.core][d.class]+1)
	case e == api.OK && d.what == "give":
		then = before.with(d.core, d.class, before[d.core][d.class]-1)
	}
	if !slices.Equal(now, then) {
		t.Fatalf("%v told %d: there is %v, not %v", d, e, now, then)
	}
}

// takeAndGive takes a place and gives it back, and gives one and takes it, as far as that may be: it is nothing.
func takeAndGive(t *testing.T, a *homes.Accounts, core, class int) {
	t.Helper()
	s := stateOf(a, 16)
	f := api.OK
	if s[core][class] == 64 {
		f = api.ErrQueue
	}
	if wantTake(t, a, core, class, f); f == api.OK {
		wantGive(t, a, core, class, api.OK)
	}
	if now := stateOf(a, 16); !slices.Equal(now, s) {
		t.Fatalf("behind Take and Give of %d, %d: %v, not %v", core, class, now, s)
	}
	f = api.OK
	if s[core][class] == 0 {
		f = api.ErrNone
	}
	if wantGive(t, a, core, class, f); f == api.OK {
		wantTake(t, a, core, class, api.OK)
	}
	if now := stateOf(a, 16); !slices.Equal(now, s) {
		t.Fatalf("behind Give and Take of %d, %d: %v, not %v", core, class, now, s)
	}
}

func TestHo4TakeAndGiveIsNothing(t *testing.T) {
	for _, s := range states() {
		a := s.made(t)
		for core := range s {
			for class := range api.Classes {
				takeAndGive(t, a, core, class)
			}
		}
		holds(t, a, s)
	}
}

// However often there is taken, moved and given, no count leaves its bounds, at each of them.
func TestHo4NoCountLeavesItsBounds(t *testing.T) {
	a := begun(t, 3)
	each := func(do func(core, class int)) {
		for core := range 3 {
			for class := range api.Classes {
				for range 200 {
					do(core, class)
				}
			}
		}
	}
	each(func(core, class int) { a.Take(core, class) })
	holds(t, a, alike(3, row{64, 64, 64}))
	each(func(core, class int) {
		wantMove(t, a, core, (core+1)%3, class, 1, api.ErrQueue)
		wantMove(t, a, core, (core+2)%3, class, 64, api.ErrQueue)
		wantMove(t, a, core, core, class, 64, api.OK)
	})
	holds(t, a, alike(3, row{64, 64, 64}))
	each(func(core, class int) { a.Give(core, class) })
	holds(t, a, alike(3, row{}))
	each(func(core, class int) {
		wantMove(t, a, core, (core+1)%3, class, 1, api.ErrNone)
		wantMove(t, a, core, core, class, 0, api.OK)
	})
	holds(t, a, alike(3, row{}))
}

// Move there and back is nothing, and no class's sum changes on the way.
func TestHo4MoveChangesNoSum(t *testing.T) {
	for _, s := range []state{odd(2), odd(5), odd(16), alike(16, row{1, 32, 63})} {
		a := s.made(t)
		for from := range s {
			for to := range s {
				for class := range api.Classes {
					for _, n := range []int{0, 1, s[from][class], s[from][class] + 1, 64 - s[to][class], 65 - s[to][class]} {
						d := deed{"move", from, to, class, n}
						e := a.Move(from, to, class, n)
						wantHo4(t, a, s, d, e)
						if e == api.OK {
							wantMove(t, a, to, from, class, n, api.OK)
						}
						if now := stateOf(a, len(s)); !slices.Equal(now, s) {
							t.Fatalf("%v there and back: %v, not %v", d, now, s)
						}
					}
				}
			}
		}
	}
}
