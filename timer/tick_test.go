package timer_test

import (
	"testing"

	"carousel/api"
	"carousel/timer"
)

func TestTi2Tick(t *testing.T) {
	for _, s := range states() {
		w := s.load(t)
		for _, n := range []int{-1, -2, least, api.MinInt, 1<<20 + 1, 1<<20 + 2, 1 << 21, api.MaxInt, api.MaxInt + 1, most, most - 1} {
			want(t, "Tick of wrong ticks", w.Tick(n), api.ErrArg)
		}
		holds(t, w, s)
		tick(t, w, 0)
		holds(t, w, s)
		for _, n := range []int{1, 2, 31, 33, 1000, 1<<20 - 1, 1 << 20} {
			e := w.Tick(n)
			if s.now == end {
				want(t, "Tick at the last tick", e, api.ErrArg)
			} else {
				want(t, "Tick", e, api.OK)
				s.now += n
			}
			holds(t, w, s)
		}
	}
}

// Up to, just to, and beyond the last tick at which a wheel may be.
func TestTi2TickToTheEnd(t *testing.T) {
	for _, before := range []int{0, 1, 2, 31, 32, 33, 1 << 15, 1<<20 - 1, 1 << 20, 1<<20 + 1} {
		s := at(end-before, [2]int{1, end - before}, [2]int{2, end - before/2}, [2]int{3, end - before/2 + 1})
		for n := max(before-2, 0); n < before+3; n++ {
			w := s.load(t)
			if n <= before && n <= 1<<20 {
				tick(t, w, n)
				holds(t, w, state{s.now + n, s.l})
				want(t, "Tick beyond the end", w.Tick(before-n+1), api.ErrArg)
				holds(t, w, state{s.now + n, s.l})
			} else {
				want(t, "Tick beyond the end", w.Tick(n), api.ErrArg)
				holds(t, w, s)
			}
		}
	}
}

// At the last tick timers may be set, listed, told, cancelled; there is no tick behind it.
func TestTi2AtTheLastTick(t *testing.T) {
	w := begun(t, end)
	for ref, ticks := range []int{1 << 20, 1, 0, 32, 1<<20 - 1, 0} {
		set(t, w, ref+1, ticks)
	}
	want(t, "Tick", w.Tick(1), api.ErrArg)
	tick(t, w, 0)
	holds(t, w, at(end, [2]int{3, end}, [2]int{6, end}, [2]int{2, end + 1}, [2]int{4, end + 32}, [2]int{5, api.MaxInt - 1}, [2]int{1, api.MaxInt}))
	wantDue(t, w, own(3, end), own(6, end))
	wantDue(t, w)
	wantCancel(t, w, 1, 1<<20, api.OK)
	wantDrop(t, w, own(5, 0).Pid, 1)
	holds(t, w, at(end, [2]int{2, end + 1}, [2]int{4, end + 32}))
}

// edges are ticks ahead at, ahead of and behind each power of 2, for however far the levels of a wheel may reach.
func edges() []int {
	ticks := []int{0}
	for k := range 21 {
		for n := 1<<k - 1; n <= 1<<k+1 && n <= 1<<20; n++ {
			if n > ticks[len(ticks)-1] {
				ticks = append(ticks, n)
			}
		}
	}
	return ticks
}

// starts are ticks at which wheels begin: noughts, odd ones, ahead of and behind ones at which many digits change, and those from which the last tick can just be come to.
func starts() []int {
	l := []int{0, 1, 7, 31, 32, 33, 12345, 1<<20 - 1, 1 << 20, 1<<20 + 1, 1<<25 - 1, 1<<40 - 3, 1<<60 - 1, end - 1<<20 - 1, end - 1<<20}
	for k := range 20 {
		l = append(l, 5<<20-1<<k, 5<<20+1<<k-1)
	}
	return l
}

// ways are how one goes on by some ticks.
func ways() []func(w *timer.Wheel, n int) {
	var l []func(w *timer.Wheel, n int)
	for _, step := range []int{1 << 20, 99999, 32768, 1025, 1024, 1000} {
		l = append(l, func(w *timer.Wheel, n int) {
			for ; n > 0; n -= min(n, step) {
				w.Tick(min(n, step))
			}
		})
	}
	return append(l, func(w *timer.Wheel, n int) {
		for step := 1; n > 0; step++ {
			w.Tick(min(n, step))
			n -= min(n, step)
		}
	})
}

// A timer by itself at each edge: it is not due one tick ahead, it is due there, and one tick behind, however one comes there.
func TestTi2EdgesOfLevels(t *testing.T) {
	for _, now := range starts() {
		for _, ticks := range edges() {
			for _, way := range ways() {
				w := begun(t, now)
				set(t, w, 1, ticks)
				if ticks > 0 {
					way(w, ticks-1)
					if w.Any() || len(w.Due()) > 0 || w.Now() != now+ticks-1 {
						t.Fatalf("from %d on behind %d of %d ticks it is due", now, ticks-1, ticks)
					}
					wantCancel(t, w.Copy(), 1, 1, api.OK)
					tick(t, w, 1)
				}
				l := []api.Fired{own(1, now+ticks)}
				holds(t, w, state{now + ticks, l})
				wantDue(t, w.Copy(), l...)
				if w.Tick(1) == api.OK {
					holds(t, w, state{now + ticks + 1, l})
				}
				wantDue(t, w, l...)
				holds(t, w, at(w.Now()))
			}
		}
	}
}

// A timer at each edge, all in one wheel, set from the farthest on: at each edge those are told that are due since the last one.
func TestTi2AllEdgesInOneWheel(t *testing.T) {
	for _, now := range starts() {
		for _, way := range ways() {
			w := begun(t, now)
			m := &model{now: now}
			for k := range edges() {
				both(t, w, m, deed{what: "set", n: edges()[len(edges())-1-k], f: own(k+1, 0)})
			}
			for _, ticks := range edges() {
				n := now + ticks - w.Now()
				way(w, n)
				m.tick(n)
				holds(t, w, m.state())
				wantDue(t, w, m.due()...)
			}
			holds(t, w, at(now+1<<20))
		}
	}
}

// Tick by tick, with timers that are set from everywhere, and Due at each.
func TestTi2TickByTick(t *testing.T) {
	var d draw = 3
	for _, now := range []int{0, 1<<15 - 3, 1<<20 - 2000, end - 5000} {
		w, m := begun(t, now), &model{now: now}
		for n := range 5000 {
			for range d.below(3) {
				both(t, w, m, deed{what: "set", n: d.below(1 << d.below(14)), f: own(n*2%900+1+d.below(2), 0)})
			}
			both(t, w, m, deed{what: "tick", n: 1})
			both(t, w, m, deed{what: "due"})
			if n%100 == 0 {
				holds(t, w, m.state())
			}
		}
	}
}

// Of one wheel all ticks up to MaxTicks, one by one: each timer is due at its own and no other.
func TestTi2EachTickUpToMaxTicks(t *testing.T) {
	for _, now := range []int{0, 77777, end - 1<<20} {
		w := begun(t, now)
		for k, ticks := range edges() {
			set(t, w, k+1, ticks)
		}
		for k := range 150 {
			set(t, w, 101+k, k*k*46)
		}
		l := w.List()
		for n := range 1<<20 + 1 {
			for w.Any() {
				due := w.Due()
				if len(l) < len(due) || len(due) == 0 || !sameList(due, l[:len(due)]) || due[0].At != now+n || due[len(due)-1].At != now+n {
					t.Fatalf("at %d: %s", w.Now(), show(due))
				}
				l = l[len(due):]
			}
			if n < 1<<20 {
				tick(t, w, 1)
			}
		}
		holds(t, w, state{now + 1<<20, l})
		if len(l) > 0 {
			t.Error("never told:", show(l))
		}
	}
}
