package timer_test

import (
	"testing"

	"carousel/api"
)

// How many ticks are left, of a timer that was due long ago, just now, and later.
func TestTi1Cancel(t *testing.T) {
	s := at(5000, [2]int{4, 0}, [2]int{1, 4998}, [2]int{9, 4999}, [2]int{2, 5000}, [2]int{3, 5000}, [2]int{8, 5001}, [2]int{5, 5002}, [2]int{6, 5032}, [2]int{7, 5000 + 1<<20 - 1}, [2]int{10, 5000 + 1<<20})
	left := []int{0, 0, 0, 0, 0, 1, 2, 32, 1<<20 - 1, 1 << 20}
	for i, f := range s.l {
		w := s.load(t)
		wantCancel(t, w, f.Ref, left[i], api.OK)
		holds(t, w, s.without(i))
		wantCancel(t, w, f.Ref, 0, api.ErrNone)
		holds(t, w, s.without(i))
		due := s.without(i)
		wantDue(t, w, due.l[:due.due()]...)
		holds(t, w, state{due.now, due.l[due.due():]})
	}
	w := s.load(t)
	for i, f := range s.l {
		wantCancel(t, w, f.Ref, left[i], api.OK)
	}
	holds(t, w, at(5000))
}

// Of one timer how many ticks are left becomes less by each tick, down to 0, and stays there.
func TestTi1CancelTickByTick(t *testing.T) {
	for _, now := range []int{0, 31, 1000, 32768 - 50, 1<<20 - 40, end - 200} {
		for _, ticks := range []int{0, 1, 2, 31, 32, 33, 64, 100} {
			w := begun(t, now)
			set(t, w, 1, ticks)
			set(t, w, 2, 5)
			for gone := range ticks + 10 {
				wantCancel(t, w.Copy(), 1, max(ticks-gone, 0), api.OK)
				tick(t, w, 1)
			}
		}
	}
}

func TestTi1CancelOfNone(t *testing.T) {
	for _, s := range states() {
		w := s.load(t)
		for _, ref := range []int{least, api.MinInt, -1, 0, 257, 300, api.MaxInt, api.MaxInt + 1, most} {
			wantCancel(t, w, ref, 0, api.ErrNone)
		}
		holds(t, w, s)
	}
}

// Each of the timers of one tick, in another order than they were set in: those that are left stand as they stood.
func TestTi1CancelAmongOthers(t *testing.T) {
	for _, ticks := range []int{0, 3, 500} {
		for _, step := range []int{1, 3, 7, 9} {
			w := begun(t, 90)
			s := state{now: 90}
			for k := range 10 {
				set(t, w, k+1, ticks)
				s.l = append(s.l, own(k+1, 90+ticks))
			}
			for k := range 10 {
				ref := 1 + (k+1)*step%10
				wantCancel(t, w, ref, ticks, api.OK)
				for i, f := range s.l {
					if f.Ref == ref {
						s = s.without(i)
						break
					}
				}
				holds(t, w, s)
			}
		}
	}
}

// With timers of one actor, of those whose number alone or whose generation alone is the same, and of others.
func TestTi1Drop(t *testing.T) {
	actors := []api.Pid{pid(3, 2), pid(3, 1), pid(3, 3), pid(4, 2), pid(2, 2), pid(2, 3), pid(3, 2), pid(3, 2), pid(255, api.MaxInt), pid(0, 1), pid(3, 2)}
	for _, ticks := range [][]int{{0}, {5}, {0, 5}, {1 << 20, 0, 40}, {1, 2, 3, 4, 5, 6, 7, 8, 9, 10, 11}} {
		s := state{now: 60}
		w := begun(t, 60)
		m := modelOf(w)
		for k, p := range actors {
			f := own(k+1, 0)
			f.Pid = p
			both(t, w, m, deed{what: "set", n: ticks[k%len(ticks)], f: f})
		}
		tick(t, w, 3)
		m.tick(3)
		s = m.state()
		for _, x := range []struct {
			p api.Pid
			n int
		}{{pid(3, 2), 4}, {pid(3, 1), 1}, {pid(4, 2), 1}, {pid(255, api.MaxInt), 1}, {pid(2, 1), 0}, {pid(4, 3), 0}, {pid(0, 2), 0}, {pid(9, 9), 0}, {pid(255, 1), 0}} {
			c, n := w.Copy(), m.copied()
			wantDrop(t, c, x.p, x.n)
			n.drop(x.p)
			holds(t, c, n.state())
			wantDrop(t, c, x.p, 0)
			wantDue(t, c, n.due()...)
			holds(t, c, n.state())
			for k, p := range actors {
				if p == x.p {
					wantCancel(t, c, k+1, 0, api.ErrNone)
				}
			}
		}
		holds(t, w, s)
	}
}

func TestTi1DropOfNone(t *testing.T) {
	for _, s := range states() {
		w := s.load(t)
		for _, p := range append(wrongPids(), pid(77, 7), pid(5, api.MaxInt)) {
			wantDrop(t, w, p, 0)
		}
		holds(t, w, s)
	}
}

// All timers of a full wheel may be one actor's, or each another one's.
func TestTi1DropOfAll(t *testing.T) {
	for _, step := range []int{0, 1, 100, 4096} {
		w, s := begun(t, 1), state{now: 1}
		for k := range 256 {
			want(t, "Set", w.Set(k+1, k*step, pid(9, 9), in(k)), api.OK)
		}
		tick(t, w, 500)
		wantDrop(t, w, pid(9, 8), 0)
		wantDrop(t, w, pid(8, 9), 0)
		wantDrop(t, w, pid(9, 9), 256)
		holds(t, w, at(501))
		for k := range 256 {
			want(t, "Set", w.Set(k+1, k*step, pid(k, 1), in(k)), api.OK)
			s.l = append(s.l, api.Fired{Ref: k + 1, At: 501 + k*step, Pid: pid(k, 1), Term: in(k)})
		}
		s.now = 501
		for k := range 256 {
			wantDrop(t, w, pid(k, 1), 1)
			s.l = s.l[1:]
			holds(t, w, s)
		}
	}
}
