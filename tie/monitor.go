package tie

import (
	"slices"

	"carousel/api"
)

// Monitor lets one watch another one.
func (t *Ties) Monitor(ref int, a, b api.Pid) api.Errno {
	if !t.given() || !pidMayBe(a) || !pidMayBe(b) || ref < 1 || ref > api.MaxInt {
		return api.ErrArg
	}
	if _, taken := t.monitors[ref]; taken {
		return api.ErrArg
	}
	if t.full() {
		return api.ErrTies
	}
	t.monitors[ref] = api.Tie{Ref: ref, A: a, B: b}
	return api.OK
}

// Demon ends a monitor.
func (t *Ties) Demon(ref int) api.Errno {
	if !t.given() {
		return api.ErrArg
	}
	if _, there := t.monitors[ref]; !there {
		return api.ErrNone
	}
	delete(t.monitors, ref)
	return api.OK
}

// Watchers are the monitors that watch one.
func (t *Ties) Watchers(b api.Pid) []api.Tie {
	if !t.given() {
		return nil
	}
	var l []api.Tie
	for _, m := range t.monitors {
		if m.B == b {
			l = append(l, m)
		}
	}
	slices.SortFunc(l, compareTies)
	return l
}
