package homes_test

import (
	"testing"

	"carousel/api"
	"carousel/homes"
)

func TestExamples(t *testing.T) {
	a := begun(t, 2)
	for range 64 {
		wantTake(t, a, 0, api.High, api.OK)
	}
	wantTake(t, a, 0, api.High, api.ErrQueue)
	wantMove(t, a, 0, 1, api.High, 64, api.OK)
	if room := a.Room(0); room != (row{64, 64, 64}) {
		t.Error(room)
	}
	holds(t, a, state{{}, {64, 0, 0}})
	wantMod(t, -1, 3, 2)
	wantMod(t, 7, 3, 1)
	wantNoMod(t, 5, 0)
	wantLeast(t, a, api.Low, 0)
}

func TestHo1New(t *testing.T) {
	for cores := 1; cores <= 16; cores++ {
		a := begun(t, cores)
		holds(t, a, alike(cores, row{}))
		wantTake(t, a, cores-1, 2, api.OK)
		wantTake(t, a, cores, 2, api.ErrArg)
		if b := begun(t, cores); b == a {
			t.Error("New gives the same accounts twice")
		}
	}
	for _, cores := range []int{-1, 0, 17, least, most, least + 1, most - 1, -2, -16, 18, 32, 64, 256, 1 << 16, 1 << 32, 1<<32 + 1, 1<<32 + 16, api.MinInt, api.MaxInt} {
		if a, e := homes.New(cores); a != nil || e != api.ErrArg {
			t.Errorf("New(%d): %v, %d", cores, a, e)
		}
	}
}

// Each account is taken from up to its end, and given back down to nothing; no other one changes by it.
func TestHo1TakeAndGiveOfEachAccount(t *testing.T) {
	for _, cores := range []int{1, 2, 3, 15, 16} {
		for _, rest := range []state{alike(cores, row{}), alike(cores, row{64, 64, 64}), odd(cores)} {
			for core := range cores {
				for class := range api.Classes {
					s := rest.with(core, class, 0)
					a := s.made(t)
					wantGive(t, a, core, class, api.ErrNone)
					holds(t, a, s)
					for count := 1; count <= 64; count++ {
						wantTake(t, a, core, class, api.OK)
						if count < 3 || count > 61 {
							holds(t, a, s.with(core, class, count))
						}
					}
					for range 3 {
						wantTake(t, a, core, class, api.ErrQueue)
						holds(t, a, s.with(core, class, 64))
					}
					for count := 63; count >= 0; count-- {
						wantGive(t, a, core, class, api.OK)
						if count < 3 || count > 61 {
							holds(t, a, s.with(core, class, count))
						}
					}
					for range 3 {
						wantGive(t, a, core, class, api.ErrNone)
						holds(t, a, s)
					}
				}
			}
		}
	}
}

// One place from the end: one goes on, and the next one is refused.
func TestHo1OnePlaceFromTheEnds(t *testing.T) {
	for _, core := range []int{0, 1, 15} {
		for class := range api.Classes {
			s := odd(16)
			a := s.with(core, class, 63).made(t)
			wantTake(t, a, core, class, api.OK)
			wantTake(t, a, core, class, api.ErrQueue)
			wantGive(t, a, core, class, api.OK)
			holds(t, a, s.with(core, class, 63))
			a = s.with(core, class, 1).made(t)
			wantGive(t, a, core, class, api.OK)
			wantGive(t, a, core, class, api.ErrNone)
			wantTake(t, a, core, class, api.OK)
			holds(t, a, s.with(core, class, 1))
		}
	}
}

// A core or a class that there is not is ErrArg, also where all that there are are full, or empty; and nothing changes.
func TestHo1TakeAndGiveOfNoAccount(t *testing.T) {
	for _, s := range states() {
		a := s.made(t)
		none := func(core, class int) {
			t.Helper()
			wantTake(t, a, core, class, api.ErrArg)
			wantGive(t, a, core, class, api.ErrArg)
		}
		for _, core := range noCores(len(s)) {
			for class := range api.Classes {
				none(core, class)
			}
			none(core, -1)
			none(core, 3)
		}
		for _, class := range noClasses() {
			for core := range s {
				none(core, class)
			}
			none(-1, class)
			none(len(s), class)
		}
		holds(t, a, s)
	}
}
