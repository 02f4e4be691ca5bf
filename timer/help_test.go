package timer_test

import (
	"fmt"
	"math"
	"slices"
	"strings"
	"testing"

	"carousel/api"
	"carousel/term"
	"carousel/timer"
)

const (
	least = -1 << 63
	most  = 1<<63 - 1
	end   = api.MaxInt - api.MaxTicks // the last tick at which a wheel may be
)

func in(n int) api.Term { return api.Term{Kind: api.KindInt, N: n} }

func atom(s string) api.Term { return api.Term{Kind: api.KindAtom, S: s} }

func pidOf(p api.Pid) api.Term { return api.Term{Kind: api.KindPid, P: p} }

func list(l ...api.Term) api.Term { return api.Term{Kind: api.KindList, L: l} }

func pid(n, gen int) api.Pid { return api.Pid{N: n, Gen: gen} }

// nulls are n terms nil.
func nulls(n int) []api.Term { return slices.Repeat([]api.Term{{Kind: api.KindNil}}, n) }

// deepOf is a term within so many others.
func deepOf(within int, t api.Term) api.Term {
	for k := range within {
		t = api.Term{Kind: api.KindTuple + k%2, L: []api.Term{t}}
	}
	return t
}

// endless is a list that holds itself.
func endless() api.Term {
	l := make([]api.Term, 1)
	l[0] = list(l...)
	return l[0]
}

// rights are terms that may be.
func rights() []api.Term {
	return []api.Term{
		{Kind: api.KindNil}, {Kind: api.KindBool}, {Kind: api.KindBool, N: 1}, in(0), in(api.MinInt), in(api.MaxInt), {Kind: api.KindComplex, C: complex(-api.MaxPart, api.MaxPart)}, atom("a"), atom(strings.Repeat("z", 64)),
		pidOf(pid(255, api.MaxInt)), {Kind: api.KindRef, N: 1}, {Kind: api.KindTuple}, list(in(1), list(atom("b"))), list(nulls(1023)...), deepOf(63, in(1)),
	}
}

type wrong struct {
	t api.Term
	e api.Errno
}

// wrongs are terms that may not be, and what layer 3 tells of them.
func wrongs() []wrong {
	return []wrong{
		{api.Term{}, api.ErrTerm}, {api.Term{Kind: 10}, api.ErrTerm}, {api.Term{Kind: -1}, api.ErrTerm}, {in(api.MaxInt + 1), api.ErrTerm}, {api.Term{Kind: api.KindBool, N: 2}, api.ErrTerm}, {atom("nil"), api.ErrTerm}, {pidOf(pid(256, 1)), api.ErrTerm}, {api.Term{Kind: api.KindRef}, api.ErrTerm},
		{api.Term{Kind: api.KindComplex, C: complex(0.5, 0)}, api.ErrTerm}, {api.Term{Kind: api.KindComplex, C: complex(0, math.Copysign(0, -1))}, api.ErrTerm}, {list(in(1), api.Term{}), api.ErrTerm}, {list(nulls(1024)...), api.ErrParts}, {deepOf(64, in(1)), api.ErrParts}, {endless(), api.ErrParts},
	}
}

// wrongPids are pids that may not be.
func wrongPids() []api.Pid {
	return []api.Pid{{}, pid(0, 0), pid(-1, 1), pid(256, 1), pid(0, -1), pid(5, 0), pid(0, api.MaxInt+1), pid(least, 1), pid(most, 1), pid(0, least), pid(0, most), pid(-1, 0)}
}

// own is a timer whose pid and term no other ref up to 1000 has.
func own(ref, at int) api.Fired {
	return api.Fired{Ref: ref, At: at, Pid: pid(ref&255, 1+ref>>8&3), Term: list(atom("t"), in(ref&(1<<40-1)))}
}

// state is all that can be told of a wheel: the tick, and the timers, in order.
type state struct {
	now int
	l   []api.Fired
}

// at is a state by refs and the ticks at which their timers are due.
func at(now int, pairs ...[2]int) state {
	s := state{now: now}
	for _, x := range pairs {
		s.l = append(s.l, own(x[0], x[1]))
	}
	return s
}

// states are wheels with no timers, with some that are due, that are not, and full ones.
func states() []state {
	all := []state{at(0), at(7), at(end), at(0, [2]int{1, 0}), at(0, [2]int{1, 1}), at(100, [2]int{3, 0}, [2]int{9, 99}, [2]int{2, 100}, [2]int{1, 101}, [2]int{5, 101}, [2]int{4, 100 + api.MaxTicks}), at(end, [2]int{8, 0}, [2]int{1, end}, [2]int{2, api.MaxInt - 1}, [2]int{3, api.MaxInt})}
	for _, step := range []int{0, 1, 33, 4096} {
		s := at(1000)
		for k := range api.MaxTimers {
			s.l = append(s.l, own(256-k, 900+k*step))
		}
		all = append(all, s)
	}
	full := all[len(all)-1]
	return append(all, state{full.now, full.l[:255]})
}

func (s state) load(t *testing.T) *timer.Wheel {
	t.Helper()
	w, e := timer.Load(s.now, s.l)
	if e != api.OK || w == nil {
		t.Fatalf("Load(%d, %s): %d", s.now, show(s.l), e)
	}
	return w
}

// due are how many stand ahead of the first one that is not due.
func (s state) due() int {
	n := 0
	for n < len(s.l) && s.l[n].At <= s.now {
		n++
	}
	return n
}

func stateOf(w *timer.Wheel) state { return state{w.Now(), w.List()} }

// begun is a wheel at a tick.
func begun(t *testing.T, now int) *timer.Wheel {
	t.Helper()
	w, e := timer.New(now)
	if e != api.OK || w == nil {
		t.Fatalf("New(%d): %d", now, e)
	}
	return w
}

// set sets a ref's own timer so many ticks ahead.
func set(t *testing.T, w *timer.Wheel, ref, ticks int) {
	t.Helper()
	f := own(ref, 0)
	if e := w.Set(ref, ticks, f.Pid, f.Term); e != api.OK {
		t.Fatalf("at %d: Set(%d, %d): %d", w.Now(), ref, ticks, e)
	}
}

func tick(t *testing.T, w *timer.Wheel, n int) {
	t.Helper()
	if e := w.Tick(n); e != api.OK {
		t.Fatalf("at %d: Tick(%d): %d", w.Now(), n, e)
	}
}

// same tells whether two terms are the same in all fields; nil is the empty list.
func same(a, b api.Term) bool {
	return a.Kind == b.Kind && a.N == b.N && a.S == b.S && a.P == b.P && a.C == b.C && slices.EqualFunc(a.L, b.L, same)
}

func sameFired(a, b api.Fired) bool {
	return a.Ref == b.Ref && a.At == b.At && a.Pid == b.Pid && same(a.Term, b.Term)
}

func sameList(a, b []api.Fired) bool { return slices.EqualFunc(a, b, sameFired) }

// show is timers' text in a failure.
func show(l []api.Fired) string {
	var parts []string
	for _, f := range l[:min(len(l), 20)] {
		_, _, e := term.Parts(f.Term)
		parts = append(parts, fmt.Sprintf("%d at %d of %v (%d, %d)", f.Ref, f.At, f.Pid, f.Term.Kind, e))
	}
	return fmt.Sprintf("%d: %s", len(l), strings.Join(parts, "; "))
}

// holds asks of a wheel all that can be told of it.
func holds(t *testing.T, w *timer.Wheel, s state) {
	t.Helper()
	if n := w.Now(); n != s.now {
		t.Fatalf("Now: %d, not %d", n, s.now)
	}
	if l := w.List(); !sameList(l, s.l) {
		t.Fatalf("at %d: List: %s, not %s", s.now, show(l), show(s.l))
	}
	if any := w.Any(); any != (s.due() > 0) {
		t.Fatalf("at %d: Any: %v of %s", s.now, any, show(s.l))
	}
}

// want asks for an error.
func want(t *testing.T, what string, got, want api.Errno) {
	t.Helper()
	if got != want {
		t.Errorf("%s: %d, not %d", what, got, want)
	}
}

// wantDue asks for timers.
func wantDue(t *testing.T, w *timer.Wheel, l ...api.Fired) {
	t.Helper()
	if due := w.Due(); !sameList(due, l) {
		t.Fatalf("at %d: Due: %s, not %s", w.Now(), show(due), show(l))
	}
}

// wantCancel asks for how many ticks are left.
func wantCancel(t *testing.T, w *timer.Wheel, ref, left int, f api.Errno) {
	t.Helper()
	if n, e := w.Cancel(ref); n != left || e != f {
		t.Fatalf("at %d: Cancel(%d): %d, %d, not %d, %d", w.Now(), ref, n, e, left, f)
	}
}

// wantDrop asks for how many timers an actor had.
func wantDrop(t *testing.T, w *timer.Wheel, p api.Pid, n int) {
	t.Helper()
	if got := w.Drop(p); got != n {
		t.Fatalf("at %d: Drop(%v): %d, not %d", w.Now(), p, got, n)
	}
}

// wantNoLoad asks for an error, and for no wheel.
func wantNoLoad(t *testing.T, s state, f api.Errno) {
	t.Helper()
	if w, e := timer.Load(s.now, s.l); w != nil || e != f {
		t.Errorf("Load(%d, %s): %v, %d, not %d", s.now, show(s.l), w, e, f)
	}
}

// without is a state without one of its timers.
func (s state) without(i int) state {
	return state{s.now, slices.Delete(slices.Clone(s.l), i, i+1)}
}

// scribble writes over a list, and over the room behind its end.
func scribble(l []api.Fired) {
	l = l[:cap(l)]
	for i := range l {
		l[i] = scribbled()
	}
}

func scribbled() api.Fired { return own(999, 3) }

// roomy is a list with room behind its end, with something there.
func roomy(l []api.Fired, behind ...api.Fired) []api.Fired {
	return slices.Concat(l, behind)[:len(l)]
}
