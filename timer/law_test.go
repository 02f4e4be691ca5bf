package timer_test

import (
	"slices"
	"testing"

	"carousel/api"
	"carousel/timer"
)

// drawn is a wheel with drawn timers, some of which may be due.
func (d *draw) drawn(t *testing.T) *timer.Wheel {
	t.Helper()
	now := min(d.start(), end-3<<20)
	w := begun(t, now)
	for ref := range 1 + d.below(60) {
		set(t, w, 1+ref, min(d.ticks(now), 1<<20))
		if d.below(8) == 0 {
			tick(t, w, d.below(50))
		}
	}
	return w
}

// From one wheel some go on to the same Now, each in other steps: all are the same there, and tell the same, just those that were set to be due up to there.
func TestTi3HoweverManyTicksAtOneTime(t *testing.T) {
	var d draw = 8
	told, some := 0, 0
	for range 3000 {
		w := d.drawn(t)
		before := w.List()
		n := min(d.ticks(w.Now()), 1<<20)
		one, many, steps := w.Copy(), w.Copy(), w.Copy()
		tick(t, one, n)
		for many.Now() < w.Now()+n {
			tick(t, many, min(1+d.below(1+n/20), w.Now()+n-many.Now()))
		}
		for k := 1; steps.Now() < w.Now()+n; k *= 2 {
			tick(t, steps, min(k, w.Now()+n-steps.Now()))
		}
		var due []api.Fired
		for _, f := range before {
			if f.At <= w.Now()+n {
				due = append(due, f)
			}
		}
		if len(due) > 0 {
			told++
		}
		if len(due) < len(before) {
			some++
		}
		for _, x := range []*timer.Wheel{one, many, steps} {
			holds(t, x, state{w.Now() + n, before})
			wantDue(t, x, due...)
			holds(t, x, state{w.Now() + n, before[len(due):]})
		}
	}
	if min(told, some) < 1000 {
		t.Error("the wheels come too seldom to something:", told, some)
	}
}

// What Due tells along the way, put together, is what it tells at the end, if nothing is set meanwhile.
func TestTi3DueAlongTheWay(t *testing.T) {
	var d draw = 21
	for range 2000 {
		w := d.drawn(t)
		whole := w.Copy()
		tick(t, whole, 1<<20)
		var l []api.Fired
		for left := 1 << 20; left > 0; {
			l = append(l, w.Due()...)
			n := min(d.ticks(w.Now()), left)
			tick(t, w, n)
			left -= n
		}
		l = append(l, w.Due()...)
		wantDue(t, whole, l...)
		holds(t, w, state{now: whole.Now()})
		holds(t, whole, state{now: whole.Now()})
	}
}

// Each timer has a ref of its own: it is told once, at its tick or later, or cancelled once, or dropped once, or it is there; behind Due Any is false.
func TestTi3NothingTwice(t *testing.T) {
	for seed := range 12 {
		d := draw(seed)
		w := begun(t, d.start()/2)
		there, next := map[int]api.Fired{}, 1
		var told, cancelled, dropped int
		gone := func(f api.Fired, why string) {
			if x, ok := there[f.Ref]; !ok || !sameFired(x, f) {
				t.Fatalf("%s: %v, which is not there", why, f)
			}
			delete(there, f.Ref)
		}
		for range 6000 {
			switch d.below(9) {
			case 0, 1, 2:
				f, ticks := own(next, 0), d.ticks(w.Now())
				ticks = min(ticks, 1<<20) >> d.below(12)
				if e := w.Set(f.Ref, ticks, f.Pid, f.Term); e == api.OK {
					f.At = w.Now() + ticks
					there[next] = f
				} else if e != api.ErrTimers || len(there) != 256 {
					t.Fatal("Set:", e)
				}
				next++
			case 3:
				ref := max(next-d.below(20), 1)
				left, e := w.Cancel(ref)
				if f, ok := there[ref]; ok != (e == api.OK) || ok && left != max(f.At-w.Now(), 0) {
					t.Fatalf("Cancel(%d): %d, %d, of %v", ref, left, e, f)
				} else if ok {
					gone(f, "cancelled")
					cancelled++
				}
			case 4:
				p, n := own(max(next-d.below(20), 1), 0).Pid, 0
				for _, f := range there {
					if f.Pid == p {
						gone(f, "dropped")
						n++
					}
				}
				wantDrop(t, w, p, n)
				dropped += n
			case 5, 6:
				w.Tick(d.ticks(w.Now()) >> d.below(12))
			default:
				for _, f := range w.Due() {
					if f.At > w.Now() {
						t.Fatal("told too early:", f)
					}
					gone(f, "told")
					told++
				}
				if w.Any() || len(w.Due()) > 0 {
					t.Fatal("one is due behind Due")
				}
				for _, f := range there {
					if f.At <= w.Now() {
						t.Fatal("not told:", f)
					}
				}
			}
			if len(w.List()) != len(there) {
				t.Fatal("there are", len(w.List()), "and not", len(there))
			}
		}
		if min(told, cancelled, dropped) < 50 {
			t.Error("the scripts come too seldom to something:", told, cancelled, dropped)
		}
	}
}

// Of one that was cancelled or dropped nothing is told any more, in whichever level it hung.
func TestTi3NoneThatWentAwayIsTold(t *testing.T) {
	for _, ticks := range edges() {
		for _, ahead := range []int{0, 1, ticks / 2, ticks - 1, ticks, ticks + 1} {
			if ahead < 0 {
				continue
			}
			for k := range 3 {
				if k == 2 && ticks-ahead == 1<<20 { // what is set anew would be due there, too
					continue
				}
				w := begun(t, 9)
				set(t, w, 1, ticks)
				set(t, w, 2, ticks)
				set(t, w, 3, ticks)
				tick(t, w, min(ahead, 1<<20))
				switch k {
				case 0:
					wantCancel(t, w, 2, max(ticks-ahead, 0), api.OK)
				case 1:
					wantDrop(t, w, own(2, 0).Pid, 1)
				case 2:
					wantDrop(t, w, own(2, 0).Pid, 1)
					set(t, w, 2, 1<<20)
				}
				tick(t, w, max(ticks-ahead, 0))
				wantDue(t, w, own(1, 9+ticks), own(3, 9+ticks))
				if l := w.List(); (len(l) > 0) != (k == 2) {
					t.Fatal("left:", show(l))
				}
			}
		}
	}
}

// Load of Now and List is the same wheel, wherever a wheel stands.
func TestTi3LoadOfDrawnWheels(t *testing.T) {
	var d draw = 40
	for range 1500 {
		w := d.drawn(t)
		tick(t, w, d.ticks(w.Now())%(1<<20))
		others := []*timer.Wheel{stateOf(w).load(t), w.Copy()}
		for range 12 {
			x := d.deed(modelOf(w), d.below(8))
			m := modelOf(w)
			n := m.copied()
			both(t, w, m, x)
			for _, other := range others {
				both(t, other, &model{n.now, slices.Clone(n.l)}, x)
				holds(t, other, stateOf(w))
			}
		}
	}
}
