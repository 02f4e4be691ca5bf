package timer_test

import (
	"slices"
	"testing"

	"carousel/api"
	"carousel/timer"
)

func TestTi2LoadOfNow(t *testing.T) {
	for _, now := range []int{0, 1, 77, end - 1, end} {
		for _, l := range [][]api.Fired{nil, {}, {own(3, now)}} {
			holds(t, state{now, l}.load(t), state{now, l})
		}
	}
	for _, now := range []int{-1, -2, end + 1, end + 2, api.MaxInt, api.MaxInt + 1, api.MinInt, least, most} {
		for _, l := range [][]api.Fired{nil, {own(3, 0)}, {own(3, now)}, {own(3, now), own(3, now)}, {{}}, slices.Repeat([]api.Fired{own(3, 0)}, 300)} {
			wantNoLoad(t, state{now, l}, api.ErrArg)
		}
	}
}

func TestTi2Load(t *testing.T) {
	for _, s := range states() {
		w := s.load(t)
		holds(t, w, s)
		m := modelOf(w)
		for _, x := range []deed{{what: "due"}, {what: "due"}, {what: "set", n: 1, f: own(500, 0)}, {what: "tick", n: 1}, {what: "due"}, {what: "tick", n: 4000}, {what: "due"}, {what: "tick", n: 1 << 20}, {what: "due"}, {what: "due"}} {
			both(t, w, m, x)
			holds(t, w, m.state())
		}
	}
}

// One timer: when it may be due.
func TestTi2LoadOfAt(t *testing.T) {
	for _, now := range []int{0, 1, 40, 1 << 20, 5<<20 + 3, end - 1, end} {
		for _, x := range []int{0, 1, now / 2, now - 1, now, now + 1, now + 31, now + 33, now + 1<<20 - 1, now + 1<<20} {
			if x < 0 {
				continue
			}
			s := at(now, [2]int{8, x})
			w := s.load(t)
			holds(t, w, s)
			wantCancel(t, w.Copy(), 8, max(x-now, 0), api.OK)
			if x > now && now < end-1<<20 {
				tick(t, w, x-now-1)
				wantDue(t, w)
				tick(t, w, 1)
			}
			if w.Now() >= x {
				wantDue(t, w, own(8, x))
				holds(t, w, at(w.Now()))
			}
		}
		for _, x := range []int{-1, -2, -now - 1, least, api.MinInt, now + 1<<20 + 1, now + 1<<20 + 2, api.MaxInt + 1, most} {
			wantNoLoad(t, at(now, [2]int{8, x}), api.ErrArg)
			wantNoLoad(t, at(now, [2]int{7, max(0, x)}, [2]int{8, x}), api.ErrArg)
			wantNoLoad(t, at(now, [2]int{7, 0}, [2]int{8, x}), api.ErrArg)
		}
	}
}

func TestTi2LoadOfMany(t *testing.T) {
	for _, n := range []int{0, 1, 2, 255, 256, 257, 258, 1000} {
		for _, step := range []int{0, 1, 100} {
			s := state{now: 50}
			for k := range n {
				s.l = append(s.l, own(n-k, k*step))
			}
			if n > 256 {
				wantNoLoad(t, s, api.ErrTimers)
				continue
			}
			w := s.load(t)
			holds(t, w, s)
			full := w.Set(n+1, 5, pid(0, 1), atom("a")) == api.ErrTimers
			if full != (n == 256) {
				t.Errorf("behind %d: full: %v", n, full)
			}
		}
	}
}

// spoilt are timers that may not be at a tick, behind one of the ref 1 that is due there, and why.
func spoilt(now int) []struct {
	f api.Fired
	e api.Errno
} {
	type row = struct {
		f api.Fired
		e api.Errno
	}
	var l []row
	for _, ref := range []int{0, -1, least, api.MinInt, 1} {
		l = append(l, row{own(ref, now), api.ErrArg})
	}
	for _, at := range []int{-1, least, now - 1, now + 1<<20 + 1, most} {
		l = append(l, row{own(500, at), api.ErrArg})
	}
	for _, p := range wrongPids() {
		l = append(l, row{api.Fired{Ref: 500, At: now, Pid: p, Term: in(1)}, api.ErrArg})
	}
	for _, x := range wrongs() {
		l = append(l, row{api.Fired{Ref: 500, At: now, Pid: pid(0, 1), Term: x.t}, x.e})
	}
	// Its ref, tick or pid is told ahead of its term.
	for _, x := range wrongs() {
		l = append(l, row{api.Fired{Ref: 1, At: now, Pid: pid(0, 1), Term: x.t}, api.ErrArg}, row{api.Fired{Ref: 0, At: now, Pid: pid(0, 1), Term: x.t}, api.ErrArg}, row{api.Fired{Ref: 500, At: now - 1, Pid: pid(0, 1), Term: x.t}, api.ErrArg}, row{api.Fired{Ref: 500, At: now + 1<<20 + 1, Pid: pid(0, 1), Term: x.t}, api.ErrArg}, row{api.Fired{Ref: 500, At: now, Term: x.t}, api.ErrArg})
	}
	return append(l, row{api.Fired{}, api.ErrArg})
}

func TestTi2LoadRefuses(t *testing.T) {
	const now = 70
	for _, x := range spoilt(now) {
		wantNoLoad(t, state{now, []api.Fired{own(1, now), x.f}}, x.e)
		wantNoLoad(t, state{now, []api.Fired{own(1, now), own(2, now), own(3, now), x.f, own(4, now)}}, x.e)
		for _, y := range spoilt(now) { // of two that are wrong the first one counts
			wantNoLoad(t, state{now, []api.Fired{own(1, now), x.f, y.f}}, x.e)
			wantNoLoad(t, state{now, []api.Fired{own(1, now), x.f, own(4, now), y.f, own(4, now)}}, x.e)
		}
		// Too many are told ahead of one that is wrong.
		many := []api.Fired{own(1, now), x.f}
		for k := range 254 {
			many = append(many, own(k+2, now))
		}
		wantNoLoad(t, state{now, many}, x.e)
		wantNoLoad(t, state{now, append(many, own(300, now))}, api.ErrTimers)
		wantNoLoad(t, state{now, append(many[:256:256], x.f)}, api.ErrTimers)
		wantNoLoad(t, state{end + 1, append(many[:256:256], x.f)}, api.ErrArg)
	}
}

// The first timer may be wrong, too, by itself: but for a ref, and a tick, that can only be wrong behind another one.
func TestTi2LoadOfAWrongFirst(t *testing.T) {
	const now = 70
	for _, x := range spoilt(now) {
		if e := x.e; x.f.Ref != 1 && x.f.At != now-1 {
			wantNoLoad(t, state{now, []api.Fired{x.f}}, e)
			wantNoLoad(t, state{now, []api.Fired{x.f, own(1, now), own(1, now)}}, e)
		}
	}
	for _, x := range wrongs() {
		wantNoLoad(t, state{now, []api.Fired{{Ref: 1, At: now - 1, Pid: pid(0, 1), Term: x.t}, own(1, now)}}, x.e)
	}
}

// Refs may stand in any order, but none twice, however far from one another; ticks must not fall.
func TestTi2LoadOfRefsAndTicks(t *testing.T) {
	holds(t, at(70, [2]int{9, 1}, [2]int{2, 1}, [2]int{5, 1}, [2]int{api.MaxInt, 70}, [2]int{1, 70}, [2]int{3, 71}).load(t), at(70, [2]int{9, 1}, [2]int{2, 1}, [2]int{5, 1}, [2]int{api.MaxInt, 70}, [2]int{1, 70}, [2]int{3, 71}))
	for _, pairs := range [][][2]int{{{1, 5}, {1, 5}}, {{1, 5}, {2, 5}, {1, 6}}, {{1, 5}, {2, 5}, {2, 90}}, {{9, 0}, {8, 70}, {7, 80}, {6, 90}, {9, 100}}, {{1, 5}, {2, 4}}, {{1, 70}, {2, 69}}, {{1, 80}, {2, 79}}, {{1, 80}, {2, 81}, {3, 80}}, {{1, 1}, {2, 0}}, {{1, 70 + 1<<20}, {2, 70 + 1<<20 - 1}}} {
		wantNoLoad(t, at(70, pairs...), api.ErrArg)
		wantNoLoad(t, at(70, append([][2]int{{50, 0}}, pairs...)...), api.ErrArg)
	}
}

// Load of Now and List, and Copy, are the same wheel: all that comes of them is the same.
func TestTi3LoadOfWhatIsTold(t *testing.T) {
	rows := [][]deed{
		{{what: "due"}, {what: "tick", n: 1}, {what: "due"}, {what: "tick", n: 1 << 20}, {what: "due"}},
		{{what: "cancel", n: 1}, {what: "drop", f: own(2, 0)}, {what: "set", n: 30, f: own(1, 0)}, {what: "set", n: 0, f: own(2, 0)}, {what: "tick", n: 30}, {what: "due"}},
		{{what: "tick", n: 1}, {what: "set", n: 0, f: own(1, 0)}, {what: "set", n: 99, f: own(300, 0)}, {what: "tick", n: 99}, {what: "due"}, {what: "due"}},
		deeds(),
	}
	for _, s := range states() {
		for _, row := range rows {
			w := s.load(t)
			both(t, w, modelOf(w), deed{what: "tick", n: 77})
			others := []*timer.Wheel{stateOf(w).load(t), w.Copy(), w.Copy().Copy(), stateOf(w.Copy()).load(t)}
			for _, other := range others {
				c, m := w.Copy(), modelOf(w)
				n := m.copied()
				for _, x := range row {
					both(t, c, m, x)
					both(t, other, n, x)
					holds(t, other, stateOf(c))
				}
			}
		}
	}
}
