package homes_test

import (
	"testing"

	"carousel/api"
)

func TestHo1Move(t *testing.T) {
	for _, x := range []struct {
		s           state
		from, to, n int
		class       int
		f           api.Errno
		then        state
	}{
		{state{{5, 1, 0}, {2, 0, 9}}, 0, 1, 3, api.High, api.OK, state{{2, 1, 0}, {5, 0, 9}}},
		{state{{5, 1, 0}, {2, 0, 9}}, 1, 0, 2, api.High, api.OK, state{{7, 1, 0}, {0, 0, 9}}},
		{state{{5, 1, 0}, {2, 0, 9}}, 0, 1, 1, api.Normal, api.OK, state{{5, 0, 0}, {2, 1, 9}}},
		{state{{5, 1, 0}, {2, 0, 9}}, 1, 0, 9, api.Low, api.OK, state{{5, 1, 9}, {2, 0, 0}}},
		{state{{5, 1, 0}, {2, 0, 9}}, 0, 1, 0, api.High, api.OK, state{{5, 1, 0}, {2, 0, 9}}},
		{state{{5, 1, 0}, {2, 0, 9}}, 0, 1, 6, api.High, api.ErrNone, nil},
		{state{{5, 1, 0}, {2, 0, 9}}, 0, 1, 1, api.Low, api.ErrNone, nil},
		{state{{5, 1, 0}, {60, 0, 9}}, 0, 1, 4, api.High, api.OK, state{{1, 1, 0}, {64, 0, 9}}},
		{state{{5, 1, 0}, {60, 0, 9}}, 0, 1, 5, api.High, api.ErrQueue, nil},
		{state{{5, 1, 0}, {64, 0, 9}}, 0, 1, 0, api.High, api.OK, state{{5, 1, 0}, {64, 0, 9}}},
		{state{{5, 1, 0}, {64, 0, 9}}, 0, 1, 1, api.High, api.ErrQueue, nil},
		{state{{64, 0, 0}, {64, 0, 0}}, 0, 1, 64, api.High, api.ErrQueue, nil},
		{state{{64, 0, 0}, {0, 0, 0}}, 0, 1, 64, api.High, api.OK, state{{0, 0, 0}, {64, 0, 0}}},
		{state{{64, 0, 0}, {1, 0, 0}}, 0, 1, 64, api.High, api.ErrQueue, nil},
		{state{{64, 0, 0}, {1, 0, 0}}, 0, 1, 63, api.High, api.OK, state{{1, 0, 0}, {64, 0, 0}}},
		{state{{1, 2, 3}, {4, 5, 6}, {7, 8, 9}}, 2, 0, 8, api.Normal, api.OK, state{{1, 10, 3}, {4, 5, 6}, {7, 0, 9}}},
	} {
		a := x.s.made(t)
		wantMove(t, a, x.from, x.to, x.class, x.n, x.f)
		if x.f != api.OK {
			x.then = x.s
		}
		holds(t, a, x.then)
	}
}

// All of: how many the one has, how many the other one, and how many are to go.
func TestHo1MoveOfAllCounts(t *testing.T) {
	a := begun(t, 2)
	for there := range 65 {
		for here := range 65 {
			for n := -1; n <= 66; n++ {
				b := a.Copy()
				f, goes := api.OK, n
				switch {
				case n < 0:
					f, goes = api.ErrArg, 0
				case n > here:
					f, goes = api.ErrNone, 0
				case n > 64-there:
					f, goes = api.ErrQueue, 0
				}
				wantMove(t, b, 0, 1, api.Normal, n, f)
				if b.Count(0, api.Normal) != here-goes || b.Count(1, api.Normal) != there+goes {
					t.Fatalf("%d of %d to %d: %s", n, here, there, show(b))
				}
			}
			if here < 64 {
				wantTake(t, a, 0, api.Normal, api.OK)
			}
		}
		for range 64 {
			wantGive(t, a, 0, api.Normal, api.OK)
		}
		if there < 64 {
			wantTake(t, a, 1, api.Normal, api.OK)
		}
	}
}

// From each core to each other one, of each class: no other account changes.
func TestHo1MoveBetweenAllCores(t *testing.T) {
	s := make(state, 16)
	for core := range s {
		s[core] = row{core + 1, 20 - core, core + 25}
	}
	for from := range s {
		for to := range s {
			for class := range api.Classes {
				a := s.made(t)
				n := s[from][class] / 2
				then := s.with(from, class, s[from][class]-n)
				then = then.with(to, class, then[to][class]+n)
				wantMove(t, a, from, to, class, n, api.OK)
				holds(t, a, then)
				wantMove(t, a, to, from, class, n, api.OK)
				holds(t, a, s)
			}
		}
	}
}

// To itself as many go as there are, and nothing changes, also of a full account: ErrQueue is never told.
func TestHo1MoveToItself(t *testing.T) {
	for _, cores := range []int{1, 3, 16} {
		for core := range cores {
			for class := range api.Classes {
				for _, count := range []int{0, 1, 2, 31, 32, 33, 63, 64} {
					s := odd(cores).with(core, class, count)
					a := s.made(t)
					for n := -2; n <= 130; n++ {
						f := api.OK
						switch {
						case n < 0:
							f = api.ErrArg
						case n > count:
							f = api.ErrNone
						}
						wantMove(t, a, core, core, class, n, f)
					}
					for _, n := range []int{1 << 32, 1<<32 + 1, 1 << 62, api.MaxInt, most - 64, most - 1, most} {
						wantMove(t, a, core, core, class, n, api.ErrNone)
					}
					for _, n := range []int{-64, -1 << 32, api.MinInt, least + 1, least} {
						wantMove(t, a, core, core, class, n, api.ErrArg)
					}
					holds(t, a, s)
				}
			}
		}
	}
}

// So many that they and those that are there would not go into an int: there are never so many, whatever the other one has.
func TestHo1MoveOfTooMany(t *testing.T) {
	for _, here := range []int{0, 1, 63, 64} {
		for _, there := range []int{0, 1, 2, 63, 64} {
			for class := range api.Classes {
				s := odd(3).with(0, class, here).with(2, class, there)
				a := s.made(t)
				for _, n := range []int{65, 1 << 16, 1 << 32, 1<<32 + 1, 1 << 62, api.MaxInt, most - 65, most - 64, most - 63, most - 2, most - 1, most} {
					wantMove(t, a, 0, 2, class, n, api.ErrNone)
				}
				for _, n := range []int{-1, -2, -64, -1 << 32, api.MinInt, least + 64, least + 1, least} {
					wantMove(t, a, 0, 2, class, n, api.ErrArg)
				}
				holds(t, a, s)
			}
		}
	}
}

// A core or a class that there is not, in each place, with whatever n: ErrArg, ahead of ErrNone and ErrQueue.
func TestHo1MoveOfNoAccount(t *testing.T) {
	for _, s := range states() {
		a := s.made(t)
		last := len(s) - 1
		for _, n := range []int{-1, 0, 1, 64, 65, least, most} {
			for _, core := range noCores(len(s)) {
				for class := range api.Classes {
					wantMove(t, a, core, 0, class, n, api.ErrArg)
					wantMove(t, a, core, last, class, n, api.ErrArg)
					wantMove(t, a, 0, core, class, n, api.ErrArg)
					wantMove(t, a, last, core, class, n, api.ErrArg)
					wantMove(t, a, core, core, class, n, api.ErrArg)
				}
				wantMove(t, a, core, core, 3, n, api.ErrArg)
				wantMove(t, a, 0, core, -1, n, api.ErrArg)
			}
			for _, class := range noClasses() {
				wantMove(t, a, 0, 0, class, n, api.ErrArg)
				wantMove(t, a, 0, last, class, n, api.ErrArg)
				wantMove(t, a, last, 0, class, n, api.ErrArg)
			}
		}
		holds(t, a, s)
	}
}

// Where more than one of the errors would do, the one that the promise names first is told.
func TestHo1MoveTellsTheFirstError(t *testing.T) {
	s := state{{3, 0, 64}, {64, 64, 64}, {64, 0, 0}}
	for _, x := range []struct {
		from, to, class, n int
		f                  api.Errno
	}{
		{0, 1, api.High, 4, api.ErrNone},      // too few are here, and there all is full
		{0, 1, api.Normal, 1, api.ErrNone},    // nobody is here
		{0, 1, api.High, 65, api.ErrNone},     // nowhere there is room for so many
		{0, 2, api.High, most, api.ErrNone},   // and these would not go into an int
		{0, 1, api.High, 3, api.ErrQueue},     // enough are here
		{0, 1, api.Low, 64, api.ErrQueue},     // both are full
		{0, 1, api.High, -1, api.ErrArg},      // there all is full
		{0, 1, api.Normal, -1, api.ErrArg},    // nobody is here
		{0, 1, api.Normal, least, api.ErrArg}, // nor so few
		{3, 1, api.High, 1, api.ErrArg},       // no core, and there all is full
		{-1, 1, api.High, most, api.ErrArg},   // the same, and nobody has so many
		{0, 3, api.High, 4, api.ErrArg},       // too few are here, and no core
		{0, -1, api.Normal, 1, api.ErrArg},    // nobody is here
		{0, 1, 3, 4, api.ErrArg},              // no class, of which nobody is here
		{1, 1, -1, 65, api.ErrArg},            // the same
		{-1, 3, 3, -1, api.ErrArg},            // nothing is right
	} {
		a := s.made(t)
		wantMove(t, a, x.from, x.to, x.class, x.n, x.f)
		holds(t, a, s)
	}
}

// A move that is refused leaves the way to go on: what was not moved can be given, and taken.
func TestHo1BehindARefusedMove(t *testing.T) {
	s := state{{2, 5, 64}, {63, 64, 0}}
	a := s.made(t)
	wantMove(t, a, 0, 1, api.High, 2, api.ErrQueue)
	wantMove(t, a, 0, 1, api.High, 3, api.ErrNone)
	wantGive(t, a, 0, api.High, api.OK)
	wantGive(t, a, 0, api.High, api.OK)
	wantGive(t, a, 0, api.High, api.ErrNone)
	wantTake(t, a, 1, api.High, api.OK)
	wantTake(t, a, 1, api.High, api.ErrQueue)
	wantMove(t, a, 0, 1, api.Normal, 5, api.ErrQueue)
	holds(t, a, state{{0, 5, 64}, {64, 64, 0}})
}
