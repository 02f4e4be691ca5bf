package timer_test

import (
	"runtime"
	"slices"
	"testing"
	"weak"

	"carousel/api"
	"carousel/timer"
)

// notGiven are wheels that neither New nor Load nor Copy gave.
func notGiven(t *testing.T) map[string]*timer.Wheel {
	t.Helper()
	byHand, empty := *states()[5].load(t), *begun(t, 4)
	refused, _ := timer.New(-1)
	unloaded, _ := timer.Load(0, []api.Fired{{}})
	var none *timer.Wheel
	return map[string]*timer.Wheel{"nil": nil, "zero": {}, "copied by hand": &byHand, "an empty one copied by hand": &empty, "refused by New": refused, "refused by Load": unloaded, "a copy of nil": none.Copy(), "a copy of one copied by hand": byHand.Copy()}
}

func TestR1OfWheelsThatWereNotGiven(t *testing.T) {
	for name, w := range notGiven(t) {
		for range 2 {
			for _, n := range []int{0, 1, 2, -1, 1 << 20, 1<<20 + 1, least, most} {
				want(t, name+": Set", w.Set(n, 1, pid(0, 1), atom("a")), api.ErrArg)
				want(t, name+": Set", w.Set(1, n, pid(0, 1), atom("a")), api.ErrArg)
				want(t, name+": Set of a wrong term", w.Set(1, n, pid(0, 1), endless()), api.ErrArg)
				want(t, name+": Tick", w.Tick(n), api.ErrArg)
				if left, e := w.Cancel(n); left != 0 || e != api.ErrArg {
					t.Errorf("%s: Cancel(%d): %d, %d", name, n, left, e)
				}
			}
			for _, p := range append(wrongPids(), pid(0, 1), own(1, 0).Pid, own(3, 0).Pid) {
				if n := w.Drop(p); n != 0 {
					t.Errorf("%s: Drop(%v): %d", name, p, n)
				}
			}
			if w.Now() != 0 || len(w.Due()) > 0 || w.Any() || len(w.List()) > 0 || w.Copy() != nil {
				t.Error(name, w.Now(), w.Due(), w.Any(), w.List(), w.Copy())
			}
		}
	}
}

// A wheel goes on as it did when a struct that was copied of it by hand is used.
func TestR1CopiedByHandChangesNothing(t *testing.T) {
	for _, s := range states() {
		w := s.load(t)
		c := *w
		c.Due()
		c.Drop(own(1, 0).Pid)
		c.Cancel(2)
		c.Tick(1)
		c.Set(500, 0, pid(0, 1), atom("a"))
		holds(t, w, s)
		wantDue(t, w, s.l[:s.due()]...)
	}
}

// rows are deeds of all kinds, in an order in which each has something to do.
func rows() []deed {
	return append(deeds(), deed{what: "set", n: 0, f: own(400, 0)}, deed{what: "set", n: 1, f: own(401, 0)}, deed{what: "set", n: 1000, f: own(402, 0)}, deed{what: "tick", n: 1}, deed{what: "due"}, deed{what: "tick", n: 999}, deed{what: "due"})
}

// What Load was given is its giver's: what is written over it, or behind its end, is not seen, and the wheel writes nothing there.
func TestR3LoadKeepsItsOwn(t *testing.T) {
	for _, s := range states() {
		l := roomy(s.l, own(500, 1), api.Fired{}, own(501, 0))
		before := slices.Clone(l[:cap(l)])
		w, e := timer.Load(s.now, l)
		want(t, "Load", e, api.OK)
		c, other := w.Copy(), modelOf(w)
		for _, d := range rows() {
			both(t, c, other, d)
		}
		if !sameList(l[:cap(l)], before) {
			t.Error("a list that was handed in is changed:", show(l[:cap(l)]))
		}
		scribble(l)
		_ = append(l, scribbled())
		holds(t, w, s)
		m := modelOf(w)
		for _, d := range rows() {
			both(t, w, m, d)
			holds(t, w, m.state())
		}
		for _, f := range l[:cap(l)] {
			if !sameFired(f, scribbled()) {
				t.Error("the wheel writes into a list that was handed in:", f)
			}
		}
	}
}

// Timers behind the end of the list that Load is given are not there, neither as too many nor as wrong ones.
func TestR3TimersBehindTheEnd(t *testing.T) {
	for _, s := range states() {
		l := roomy(s.l, api.Fired{}, own(-1, -1), own(1, 0))
		holds(t, state{s.now, l}.load(t), s)
	}
	l := append(states()[10].l, api.Fired{}, own(1, 0))
	holds(t, state{1000, l[:256]}.load(t), states()[10])
	wantNoLoad(t, state{1000, l[:257]}, api.ErrTimers)
}

// What Due and List told is their asker's: it may be written over and appended to, and does not change with the wheel.
func TestR3AnswersAreTheirOwn(t *testing.T) {
	for _, s := range states() {
		for _, behind := range []int{0, 1, 5000} {
			if s.now+behind > end {
				continue
			}
			w := s.load(t)
			w.Cancel(256) // so that there may be spare room
			tick(t, w, behind)
			s := stateOf(w)
			first, second := w.List(), w.List()
			scribble(append(first, scribbled()))
			scribble(first)
			holds(t, w, s)
			due, kept := w.Due(), w.Copy().List()
			left := state{s.now, s.l[s.due():]}
			if !sameList(due, s.l[:s.due()]) {
				t.Fatal("Due:", show(due))
			}
			scribble(append(due, scribbled()))
			scribble(due)
			holds(t, w, left)
			m := modelOf(w)
			for _, d := range rows() {
				both(t, w, m, d)
				holds(t, w, m.state())
			}
			if !sameList(second, s.l) || !sameList(kept, left.l) {
				t.Error("an answer changes with the wheel, or with another answer:", show(second), show(kept))
			}
			for _, f := range append(first[:cap(first)], due[:cap(due)]...) {
				if !sameFired(f, scribbled()) {
					t.Error("the wheel writes into an answer:", f)
				}
			}
		}
	}
}

// Answers of Due that follow one another share nothing.
func TestR3DueTwice(t *testing.T) {
	w := begun(t, 0)
	var told [][]api.Fired
	for n := range 50 {
		for k := range 1 + n%4 {
			set(t, w, 1+n*4+k, 0)
		}
		told = append(told, w.Due())
		tick(t, w, 1)
	}
	for n, l := range told {
		if n%2 == 0 {
			scribble(append(l, scribbled()))
			scribble(l)
		}
	}
	for n, l := range told {
		for k, f := range l {
			if n%2 == 1 && !sameFired(f, own(1+n*4+k, n)) {
				t.Fatal("two answers share memory:", f)
			}
		}
	}
}

// A wheel and its copy go their own ways, whatever is done to either.
func TestR4Copy(t *testing.T) {
	ds := rows()
	for _, s := range states() {
		for k := range ds {
			w := s.load(t)
			c := w.Copy()
			if c == nil || c == w {
				t.Fatal("Copy:", c, w)
			}
			holds(t, c, s)
			m, n := modelOf(w), modelOf(c)
			for i := range ds {
				both(t, w, m, ds[i])
				both(t, c, n, ds[(i*7+k)%len(ds)])
			}
			holds(t, w, m.state())
			holds(t, c, n.state())
		}
	}
}

// Copies of a wheel whose slots may have room: what is set in each is that one's alone.
func TestR4CopiesWithRoom(t *testing.T) {
	for _, ticks := range []int{0, 1, 40, 5000} {
		w := begun(t, 6)
		s := state{now: 6}
		for k := range 5 {
			set(t, w, k+1, ticks)
			s.l = append(s.l, own(k+1, 6+ticks))
		}
		others := []*timer.Wheel{w, w.Copy(), w.Copy().Copy(), s.load(t)}
		for k, x := range others {
			set(t, x, 10+k, ticks)
		}
		for k, x := range others {
			holds(t, x, state{6, append(s.l[:5:5], own(10+k, 6+ticks))})
		}
	}
}

func TestR4WheelsKnowNothingOfOneAnother(t *testing.T) {
	w, c := begun(t, 0), begun(t, 0)
	if w == c {
		t.Fatal("New gives one wheel twice")
	}
	m, n := &model{}, &model{}
	var d draw = 3
	for i := range 3000 {
		both(t, w, m, d.deed(m, i/300))
		both(t, c, n, d.deed(n, i/400))
		holds(t, w, m.state())
	}
	holds(t, c, n.state())
}

// What has gone is not kept: nothing asks for it any more.
func TestWhatHasGoneIsNotKept(t *testing.T) {
	ways := map[string]func(w *timer.Wheel){
		"Due":    func(w *timer.Wheel) { w.Tick(1 << 20); w.Due() },
		"Cancel": func(w *timer.Wheel) { w.Cancel(100) },
		"Drop":   func(w *timer.Wheel) { w.Drop(pid(9, 9)) },
		"Tick, then Cancel": func(w *timer.Wheel) {
			w.Tick(1 << 15)
			w.Cancel(100)
		},
		"Tick, then Drop": func(w *timer.Wheel) {
			w.Tick(1 << 20)
			w.Drop(pid(9, 9))
		},
	}
	for name, way := range ways {
		for _, ticks := range []int{0, 3, 1000, 1 << 20} {
			for others := range 3 {
				w := begun(t, 0)
				for k := range others {
					set(t, w, 1+k, ticks)
				}
				l := []api.Term{in(1), in(2)}
				seen := weak.Make(&l[0])
				want(t, "Set", w.Set(100, ticks, pid(9, 9), list(l...)), api.OK)
				l = nil
				for k := range others {
					set(t, w, 11+k, ticks)
				}
				way(w)
				runtime.GC()
				if seen.Value() != nil {
					t.Errorf("%s of a timer that was %d ticks ahead, with %d on each side: it is kept", name, ticks, others)
				}
				runtime.KeepAlive(w)
			}
		}
	}
}
