package timer_test

import (
	"slices"
	"testing"

	"carousel/api"
)

// The examples of the chapter.
func TestTi2Examples(t *testing.T) {
	w := begun(t, 10)
	set(t, w, 1, 5)
	set(t, w, 2, 0)
	set(t, w, 3, 5)
	if !w.Any() {
		t.Error("none is due")
	}
	wantDue(t, w, own(2, 10))
	tick(t, w, 4)
	if w.Any() {
		t.Error("one is due")
	}
	tick(t, w, 1)
	wantDue(t, w, own(1, 15), own(3, 15))
	wantCancel(t, w, 1, 0, api.ErrNone)
	set(t, w, 7, 1<<20)
	want(t, "Set twice", w.Set(7, 1, pid(0, 1), atom("a")), api.ErrArg)
	tick(t, w, 1<<20)
	wantDue(t, w, own(7, 15+1<<20))
	set(t, w, 7, 1)
	want(t, "Set twice", w.Set(7, 1, pid(0, 1), atom("a")), api.ErrArg)
}

// Timers are told by the ticks at which they are due, and at one tick in the order in which they were set, whatever their refs, pids and terms are.
func TestTi2DueInOrder(t *testing.T) {
	rows := [][]int{{5, 5, 5}, {3, 2, 1}, {1, 2, 3}, {40, 3, 40, 3, 0, 40, 0}, {1024, 1023, 1025, 1023, 1024, 1}, {1 << 20, 0, 1 << 20, 1<<20 - 1, 32, 31, 33, 0, 1 << 15, 1 << 10, 1 << 20}, {64, 63, 62, 61, 60, 32, 31, 30, 64, 63, 32, 31}}
	for _, now := range []int{0, 1, 30, 1<<15 - 2, 1<<20 - 1, end - 1<<20} {
		for _, row := range rows {
			for _, turned := range []bool{false, true} {
				w, m := begun(t, now), &model{now: now}
				for k, ticks := range row {
					ref := k + 1
					if turned {
						ref = 100 - k
					}
					both(t, w, m, deed{what: "set", n: ticks, f: own(ref, 0)})
					holds(t, w, m.state())
				}
				c, n := w.Copy(), m.copied()
				for now+1<<20 > n.now { // all of them stay, though they are due
					both(t, c, n, deed{what: "tick", n: 1 << 15})
					holds(t, c, n.state())
				}
				both(t, c, n, deed{what: "due"})
				for _, ticks := range slices.Sorted(slices.Values(row)) { // each as soon as it is due
					both(t, w, m, deed{what: "tick", n: now + ticks - m.now})
					holds(t, w, m.state())
					both(t, w, m, deed{what: "due"})
					holds(t, w, m.state())
				}
				for _, x := range []*model{m, n} {
					if len(x.l) > 0 {
						t.Error("never told:", show(x.l))
					}
				}
			}
		}
	}
}

// Timers of one tick that were set from different distances, so that they hung in different levels at first: the order in which they were set counts alone.
func TestTi2DueOfOneTickSetFromAfar(t *testing.T) {
	for _, now := range []int{0, 5, 1<<20 - 7, 1<<45 - 3, end - 1<<20} {
		for _, target := range []int{1 << 20, 1<<20 - 1, 1<<15 + 31, 1 << 15, 1<<15 - 1, 1 << 10, 1000, 33, 32} {
			w, m := begun(t, now), &model{now: now}
			for k := 0; m.now < now+target; k++ {
				left := now + target - m.now
				both(t, w, m, deed{what: "set", n: left, f: own(200-k, 0)})
				both(t, w, m, deed{what: "set", n: min(left+1, 1<<20), f: own(400-k, 0)})
				both(t, w, m, deed{what: "set", n: left - 1, f: own(600-k, 0)})
				both(t, w, m, deed{what: "tick", n: (left + 1) / 2})
				holds(t, w, m.state())
			}
			both(t, w, m, deed{what: "set", n: 0, f: own(700, 0)})
			holds(t, w, m.state())
			both(t, w, m, deed{what: "due"})
			holds(t, w, m.state())
		}
	}
}

// Those that were due for long stand ahead of those that have just come due; a timer that is set to be due at once stands behind those that are due at that tick.
func TestTi2DueForLongBesideJustDue(t *testing.T) {
	w := begun(t, 100)
	set(t, w, 9, 3)
	set(t, w, 8, 50)
	set(t, w, 7, 0)
	tick(t, w, 2)
	set(t, w, 6, 0)
	set(t, w, 5, 1)
	tick(t, w, 48)
	set(t, w, 4, 0)
	set(t, w, 3, 1)
	holds(t, w, at(150, [2]int{7, 100}, [2]int{6, 102}, [2]int{9, 103}, [2]int{5, 103}, [2]int{8, 150}, [2]int{4, 150}, [2]int{3, 151}))
	wantDue(t, w, own(7, 100), own(6, 102), own(9, 103), own(5, 103), own(8, 150), own(4, 150))
	holds(t, w, at(150, [2]int{3, 151}))
	wantDue(t, w)
	set(t, w, 7, 0)
	wantDue(t, w, own(7, 150))
	wantDue(t, w)
	holds(t, w, at(150, [2]int{3, 151}))
	tick(t, w, 1)
	wantDue(t, w, own(3, 151))
	holds(t, w, at(151))
}

// A timer that is due stays till it is told, cancelled or dropped, however long that takes.
func TestTi2StaysTillItIsTold(t *testing.T) {
	for _, n := range []int{0, 1, 31, 32, 1 << 10, 1 << 20} {
		w := begun(t, 3)
		set(t, w, 1, 2)
		set(t, w, 2, 2)
		set(t, w, 3, 2)
		tick(t, w, 2)
		for range 3 {
			for range 3 {
				if !w.Any() {
					t.Fatal("none is due")
				}
				holds(t, w, at(w.Now(), [2]int{1, 5}, [2]int{2, 5}, [2]int{3, 5}))
			}
			tick(t, w, n)
		}
		wantCancel(t, w, 2, 0, api.OK)
		holds(t, w, at(w.Now(), [2]int{1, 5}, [2]int{3, 5}))
		wantDrop(t, w, own(1, 0).Pid, 1)
		holds(t, w, at(w.Now(), [2]int{3, 5}))
		tick(t, w, n)
		wantDue(t, w, own(3, 5))
		holds(t, w, at(w.Now()))
		tick(t, w, n)
		wantDue(t, w)
		holds(t, w, at(w.Now()))
	}
}

// Due of none changes nothing, and tells nothing.
func TestTi2DueOfNone(t *testing.T) {
	for _, s := range states() {
		w := s.load(t)
		n := s.due()
		wantDue(t, w, s.l[:n]...)
		s.l = s.l[n:]
		for range 3 {
			holds(t, w, s)
			wantDue(t, w)
		}
		for _, f := range s.l {
			wantCancel(t, w.Copy(), f.Ref, f.At-s.now, api.OK)
		}
	}
}
