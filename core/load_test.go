package core_test

import (
	"slices"
	"testing"

	"carousel/api"
	"carousel/core"
)

func TestP183Load(t *testing.T) {
	for _, s := range states() {
		knows(t, s.load(t), s)
	}
	for _, slots := range wheels() {
		for hand := range slots {
			s := state{slots, hand, lists{entries("a* b"), entries("c d*"), entries("e")}}
			knows(t, s.load(t), s)
		}
	}
}

// What a core tells of itself is a core's.
func TestP183LoadOfWhatIsTold(t *testing.T) {
	for _, s := range states() {
		m := modelOf(s)
		c := s.load(t)
		for _, d := range deeds() {
			both(t, c, m, d)
			now := m.state()
			knows(t, stateOf(c, s.slots).load(t), now)
		}
	}
}

// Slots that are no wheel come ahead of whatever else is wrong.
func TestP183LoadOfNoWheel(t *testing.T) {
	for _, slots := range noWheels() {
		for _, hand := range []int{least, -1, 0, 1, len(slots) - 1, len(slots), most} {
			for _, qs := range []lists{{}, {entries("a"), nil, entries("b")}, {entries("a"), entries("a"), nil}, {nil, many(65, 0), nil}, {nil, many(65, 0), many(1, 0)}} {
				wantNoLoad(t, state{slots, hand, qs}, api.ErrWheel)
			}
		}
	}
}

func TestP183LoadOfNoHand(t *testing.T) {
	for _, slots := range wheels() {
		for _, qs := range []lists{{}, {entries("a"), nil, entries("b")}, {entries("a"), entries("a"), nil}, {nil, many(65, 0), nil}} {
			for _, hand := range []int{-1, -2, -len(slots), len(slots), len(slots) + 1, 2 * len(slots), 64, 1 << 32, 1<<32 + 1, api.MaxInt, api.MinInt, most - 1, most, least, least + 1} {
				wantNoLoad(t, state{slots, hand, qs}, api.ErrArg)
			}
		}
		for _, hand := range []int{0, 1, len(slots) - 1} {
			s := state{slots: slots, hand: hand}
			knows(t, s.load(t), s)
		}
	}
}

// A pid twice in one queue, in two queues: each two places are held against each other, pinned or not.
func TestP183LoadOfOneTwice(t *testing.T) {
	for _, s := range []state{at("012", 0, "a b", "c* d", "e f*"), at("210", 2, "a* b* A*", "", "c"), {digits("012"), 1, lists{many(64, 0), many(64, 64), many(64, 128)}}} {
		knows(t, s.load(t), s)
		for class, l := range s.queues {
			for i := 0; i < len(l); i += max(1, len(l)/3) {
				for other, q := range s.queues {
					for j := len(q) - 1; j >= 0; j -= max(1, len(q)/3) {
						if class == other && i == j {
							continue
						}
						wrong := s.copied()
						wrong.queues[class][i].Pid = wrong.queues[other][j].Pid
						wantNoLoad(t, wrong, api.ErrArg)
						wrong.queues[class][i].Pinned = !wrong.queues[class][i].Pinned
						wantNoLoad(t, wrong, api.ErrArg)
					}
				}
			}
		}
	}
}

// Of a queue of 64, and of 65, of each class.
func TestP183LoadUpToTheEnd(t *testing.T) {
	for class := range api.Classes {
		for _, s := range []state{at("012", 0, "", "", ""), at("2010", 3, "a", "b*", "c"), {digits("012"), 1, lists{many(64, 1000), many(64, 2000), many(64, 3000)}}} {
			for _, n := range []int{0, 1, 62, 63, 64} {
				knows(t, s.with(class, many(n, 0)).load(t), s.with(class, many(n, 0)))
			}
			for _, n := range []int{65, 66, 128, 129, 1000, 1 << 17} {
				wantNoLoad(t, s.with(class, many(n, 5000)), api.ErrFull)
			}
		}
	}
}

func TestP183LoadTellsTheFirstError(t *testing.T) {
	long := many(65, 100)
	for _, x := range []struct {
		s state
		f api.Errno
	}{
		{state{digits("011"), 9, lists{long, long, nil}}, api.ErrWheel},
		{state{digits("012"), 3, lists{long, nil, nil}}, api.ErrArg},
		{state{digits("012"), 0, lists{long, nil, entries("a a")}}, api.ErrArg},
		{state{digits("012"), 0, lists{nil, entries("a"), append(slices.Clone(long), entries("a")...)}}, api.ErrArg},
		{state{digits("012"), 0, lists{long, long, nil}}, api.ErrArg},
		{state{digits("012"), 0, lists{append(slices.Clone(long), long[64]), nil, nil}}, api.ErrArg},
		{state{digits("012"), 0, lists{nil, long, many(65, 300)}}, api.ErrFull},
		{state{digits("012"), 2, lists{entries("a"), entries("b"), long}}, api.ErrFull},
		{state{digits("012"), 2, lists{entries("a"), entries("b"), long[1:]}}, api.OK},
	} {
		if c, e := core.Load(x.s.slots, x.s.hand, x.s.queues); e != x.f || (c != nil) != (e == api.OK) {
			t.Errorf("Load(%v): %v, %d, not %d", x.s, c, e, x.f)
		}
	}
}

// All small queues of three pids: a core just where no pid stands twice.
func TestP183LoadOfAllSmallQueues(t *testing.T) {
	var short []list
	for n := range 3 {
		for k := range []int{1, 3, 9}[n] {
			var l list
			for i := range n {
				l = append(l, api.Entry{Pid: pid(k/[]int{1, 3}[i]%3, 1), Pinned: (k+i)%2 == 0})
			}
			short = append(short, l)
		}
	}
	for _, a := range short {
		for _, b := range short {
			for _, c := range short {
				s := state{digits("0102"), 3, lists{a, b, c}}
				ps := s.pids()
				slices.SortFunc(ps, func(p, q api.Pid) int { return p.N - q.N })
				if len(slices.Compact(ps)) == len(s.all()) {
					knows(t, s.load(t), s)
				} else {
					wantNoLoad(t, s, api.ErrArg)
				}
			}
		}
	}
}

// A loaded core goes on like any other: what pins it has come out, and go by Push.
func TestP183LoadGoesOn(t *testing.T) {
	s := at("0102", 2, "a* b", "c", "d*")
	c := s.load(t)
	wantPush(t, c, 1, who('d'), api.ErrArg)
	wantPick(t, c, entries("a*")[0], 0, api.OK)
	wantPush(t, c, 0, who('a'), api.OK)
	wantPick(t, c, entries("d*")[0], 2, api.OK)
	wantJoin(t, c, 2, entries("e"), api.OK)
	knows(t, c, at("0102", 0, "b a", "c", "e*"))
}
