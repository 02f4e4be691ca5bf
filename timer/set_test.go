package timer_test

import (
	"testing"

	"carousel/api"
	"carousel/timer"
)

func TestTi1New(t *testing.T) {
	for _, now := range []int{0, 1, 2, 9, 1 << 20, 1<<40 + 5, end - 1, end} {
		holds(t, begun(t, now), at(now))
	}
	for _, now := range []int{-1, -2, end + 1, end + 2, api.MaxInt - 1, api.MaxInt, api.MaxInt + 1, api.MinInt, -end, least, most} {
		if w, e := timer.New(now); w != nil || e != api.ErrArg {
			t.Errorf("New(%d): %v, %d", now, w, e)
		}
	}
}

func TestTi1SetRefs(t *testing.T) {
	for _, s := range states() {
		if len(s.l) > 250 {
			continue
		}
		w := s.load(t)
		for _, ref := range []int{api.MinInt, -api.MaxInt, least, -2, -1, 0} {
			want(t, "Set of a wrong ref", w.Set(ref, 1, pid(0, 1), atom("a")), api.ErrArg)
		}
		holds(t, w, s)
		m := modelOf(w)
		for _, ref := range []int{11, 12, 1 << 40, api.MaxInt - 1, api.MaxInt, most} {
			both(t, w, m, deed{what: "set", n: 3, f: own(ref, 0)})
			holds(t, w, m.state())
			want(t, "Set of a ref that is there", w.Set(ref, 3, pid(200, 1), atom("a")), api.ErrArg)
			holds(t, w, m.state())
		}
		if len(m.l) != len(s.l)+6 {
			t.Error("refs are refused:", show(m.l))
		}
		for _, f := range s.l {
			for _, ticks := range []int{0, f.At, 9} {
				want(t, "Set of a ref that is there", w.Set(f.Ref, ticks, f.Pid, f.Term), api.ErrArg)
			}
		}
		holds(t, w, m.state())
	}
}

// A ref is free again once its timer has gone, by whatever, and only then.
func TestTi1SetRefsThatWentAway(t *testing.T) {
	ways := map[string]func(w *timer.Wheel, f api.Fired){
		"Due":    func(w *timer.Wheel, f api.Fired) { wantDue(t, w, f) },
		"Cancel": func(w *timer.Wheel, f api.Fired) { wantCancel(t, w, f.Ref, 0, api.OK) },
		"Drop":   func(w *timer.Wheel, f api.Fired) { wantDrop(t, w, f.Pid, 1) },
	}
	for name, way := range ways {
		for _, ref := range []int{1, 7, api.MaxInt} {
			w := begun(t, 50)
			for round := range 3 {
				at := 53 + 4*round
				set(t, w, ref, 3)
				tick(t, w, 2)
				want(t, name+": Set ahead of it", w.Set(ref, 1, pid(1, 1), atom("a")), api.ErrArg)
				tick(t, w, 2)
				want(t, name+": Set of one that is due", w.Set(ref, 1, pid(1, 1), atom("a")), api.ErrArg)
				holds(t, w, state{at + 1, []api.Fired{own(ref, at)}})
				way(w, own(ref, at))
				holds(t, w, state{now: at + 1})
				wantCancel(t, w, ref, 0, api.ErrNone)
			}
			set(t, w, ref, 9)
			wantCancel(t, w, ref, 9, api.OK)
			set(t, w, ref, 8)
			holds(t, w, at(62, [2]int{ref, 70}))
		}
	}
}

func TestTi1SetTicks(t *testing.T) {
	for _, now := range []int{0, 1, 777, 1<<20 - 1, end - 1, end} {
		w := begun(t, now)
		for _, ticks := range []int{-1, -2, least, api.MinInt, 1<<20 + 1, 1<<20 + 2, 1 << 21, api.MaxInt, api.MaxInt - now + 1, most, most - now} {
			want(t, "Set of wrong ticks", w.Set(1, ticks, pid(0, 1), atom("a")), api.ErrArg)
		}
		holds(t, w, at(now))
		s := state{now: now}
		for k, ticks := range []int{0, 1, 2, 31, 32, 33, 1023, 1024, 32767, 32768, 1<<20 - 1, 1 << 20} {
			set(t, w, k+1, ticks)
			s.l = append(s.l, own(k+1, now+ticks))
			holds(t, w, s)
		}
	}
}

func TestTi1SetPids(t *testing.T) {
	w := begun(t, 5)
	for _, p := range wrongPids() {
		want(t, "Set of a pid that may not be", w.Set(1, 1, p, atom("a")), api.ErrArg)
		holds(t, w, at(5))
	}
	s := state{now: 5}
	for k, p := range []api.Pid{pid(0, 1), pid(255, 1), pid(0, api.MaxInt), pid(255, api.MaxInt), pid(100, 3), pid(100, 3)} {
		want(t, "Set", w.Set(k+1, 1, p, atom("a")), api.OK)
		s.l = append(s.l, api.Fired{Ref: k + 1, At: 6, Pid: p, Term: atom("a")})
		holds(t, w, s)
	}
	tick(t, w, 1)
	wantDue(t, w, s.l...)
}

func TestTi1SetTerms(t *testing.T) {
	w := begun(t, 5)
	for _, x := range wrongs() {
		want(t, "Set of a term that may not be", w.Set(1, 1, pid(0, 1), x.t), x.e)
		holds(t, w, at(5))
	}
	s := state{now: 5}
	for k, x := range rights() {
		want(t, "Set", w.Set(k+1, 1, pid(0, 1), x), api.OK)
		s.l = append(s.l, api.Fired{Ref: k + 1, At: 6, Pid: pid(0, 1), Term: x})
		holds(t, w, s)
	}
	tick(t, w, 1)
	wantDue(t, w, s.l...)
}

// There are MaxTimers timers at most, whenever they are due, those that are due among them; one that goes makes room for one.
func TestTi1SetMany(t *testing.T) {
	ways := []func(k int) int{func(int) int { return 0 }, func(int) int { return 7 }, func(k int) int { return k }, func(k int) int { return 1 << (k % 21) }, func(k int) int { return 4096 * k }}
	for _, ticks := range ways {
		w, m := begun(t, 33), &model{now: 33}
		for k := range 256 {
			if k == 100 {
				both(t, w, m, deed{what: "tick", n: 1 << 12})
			}
			both(t, w, m, deed{what: "set", n: ticks(k), f: own(k+1, 0)})
			if k >= 254 && len(m.l) != k+1 {
				t.Fatal("timer", k+1, "is refused")
			}
		}
		holds(t, w, m.state())
		for _, ref := range []int{257, 258, api.MaxInt} {
			want(t, "Set of one too many", w.Set(ref, 5, pid(0, 1), atom("a")), api.ErrTimers)
		}
		holds(t, w, m.state())
		for _, x := range []deed{{what: "cancel", n: 256}, {what: "cancel", n: 1}, {what: "drop", f: own(2, 0)}, {what: "due"}} {
			both(t, w, m, x)
			for k := range 256 - len(m.l) {
				both(t, w, m, deed{what: "set", n: 3, f: own(257+k, 0)})
			}
			if len(m.l) != 256 {
				t.Fatal("no room behind", x.what)
			}
			holds(t, w, m.state())
			want(t, "Set of one too many", w.Set(1000, 5, pid(0, 1), atom("a")), api.ErrTimers)
			for k := range 256 {
				m.cancel(257 + k)
				w.Cancel(257 + k)
			}
		}
	}
}

// An argument that may not be is told ahead of a term, a term ahead of too many timers. What is refused changes nothing.
func TestTi1SetOrderOfErrors(t *testing.T) {
	for _, s := range states() {
		w := s.load(t)
		refs := []int{0, -1, least}
		for _, f := range s.l {
			refs = append(refs, f.Ref)
		}
		for _, x := range wrongs() {
			for _, ref := range refs {
				want(t, "Set of a wrong ref and term", w.Set(ref, 5, pid(0, 1), x.t), api.ErrArg)
				want(t, "Set of a wrong ref", w.Set(ref, 5, pid(0, 1), atom("a")), api.ErrArg)
			}
			for _, ticks := range []int{-1, 1<<20 + 1, least, most} {
				want(t, "Set of wrong ticks and term", w.Set(300, ticks, pid(0, 1), x.t), api.ErrArg)
				want(t, "Set of wrong ticks", w.Set(300, ticks, pid(0, 1), atom("a")), api.ErrArg)
			}
			for _, p := range wrongPids() {
				want(t, "Set of a wrong pid and term", w.Set(300, 5, p, x.t), api.ErrArg)
				want(t, "Set of a wrong pid", w.Set(300, 5, p, atom("a")), api.ErrArg)
			}
			want(t, "Set of a wrong term", w.Set(300, 5, pid(0, 1), x.t), x.e)
		}
		holds(t, w, s)
		last := w.Set(300, 5, pid(0, 1), atom("a"))
		if len(s.l) == 256 {
			want(t, "Set of one too many", last, api.ErrTimers)
			holds(t, w, s)
		} else {
			want(t, "Set", last, api.OK)
		}
	}
}
