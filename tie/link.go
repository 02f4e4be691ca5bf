package tie

import (
	"slices"

	"carousel/api"
)

// pair is two who are linked. The one that stands ahead comes first, so that a link has one key, from whichever side it is asked for.
type pair struct{ ahead, behind api.Pid }

func pairOf(a, b api.Pid) pair {
	if comparePids(a, b) > 0 {
		a, b = b, a
	}
	return pair{a, b}
}

// mayLink tells whether two may be linked.
func mayLink(a, b api.Pid) bool { return pidMayBe(a) && pidMayBe(b) && a != b }

// Link links two.
func (t *Ties) Link(a, b api.Pid) api.Errno {
	if !t.given() || !mayLink(a, b) {
		return api.ErrArg
	}
	x := pairOf(a, b)
	if _, linked := t.links[x]; linked {
		return api.OK
	}
	if t.full() {
		return api.ErrTies
	}
	t.links[x] = struct{}{}
	return api.OK
}

// Unlink ends a link.
func (t *Ties) Unlink(a, b api.Pid) api.Errno {
	if !t.given() || !mayLink(a, b) {
		return api.ErrArg
	}
	x := pairOf(a, b)
	if _, linked := t.links[x]; !linked {
		return api.ErrNone
	}
	delete(t.links, x)
	return api.OK
}

// Links are those that one is linked with.
func (t *Ties) Links(a api.Pid) []api.Pid {
	if !t.given() {
		return nil
	}
	var l []api.Pid
	for x := range t.links {
		switch a {
		case x.ahead:
			l = append(l, x.behind)
		case x.behind:
			l = append(l, x.ahead)
		}
	}
	slices.SortFunc(l, comparePids)
	return l
}
