package timer

import (
	"math/bits"

	"carousel/api"
)

// A tick's number has digits of so many bits, one for each level: the lowest level's slots reach over one tick, those of each other one over as many as all slots of the level below it. Together they reach over MaxTicks, 2^20.
const (
	digit = 5
	width = 1 << digit
	depth = 4
)

// slot are timers: those that are due at the same tick stand in the order in which they were set.
type slot []api.Fired

type level [width]slot

// place is the slot in which a timer hangs that is due at a tick: in the level of the highest digit by which that tick differs from now, or, if that is beyond all levels, in the topmost one, which is gone round once at most till then. It hangs on both ticks alone: so timers that are due at the same one are never in two slots, and keep their order without a number for it.
func (w *Wheel) place(at int) *slot {
	if at <= w.now {
		return &w.due
	}
	l := min((bits.Len(uint(at^w.now))-1)/digit, depth-1)
	return w.slot(l, at>>(l*digit))
}

// slot is one of a level's, which count from tick 0 on, round and round.
func (w *Wheel) slot(l, n int) *slot { return &w.levels[l][n%width] }

// hang hangs a timer behind those of its slot.
func (w *Wheel) hang(f api.Fired) {
	w.ats[f.Ref] = f.At
	s := w.place(f.At)
	*s = append(*s, f)
}

// lower empties the slots of a level that were come to since a tick: what they hold has come nearer, and hangs lower, or is due. Each slot is emptied once, however many times it was come to.
func (w *Wheel) lower(l, from int) {
	first, last := from>>(l*digit)+1, w.now>>(l*digit)
	for k := range min(last-first+1, width) {
		s := w.slot(l, first+k)
		nearer := *s
		*s = nil
		for _, f := range nearer {
			w.hang(f)
		}
	}
}

// all are all timers, slot by slot, in memory of their own.
func (w *Wheel) all() []api.Fired {
	l := append([]api.Fired(nil), w.due...)
	for i := range depth {
		for k := range width {
			l = append(l, w.levels[i][k]...)
		}
	}
	return l
}
