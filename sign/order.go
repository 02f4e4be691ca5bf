package sign

import (
	"cmp"
	"slices"

	"carousel/api"
	"carousel/term"
)

func pidMayBe(p api.Pid) bool { return term.Check(pidTerm(p)) == api.OK }

// livesMayBe tells whether lives stand by their places, no two at one.
func livesMayBe(lives []api.Life) bool {
	for i, x := range lives {
		if !pidMayBe(x.Pid) || i > 0 && lives[i-1].Pid.N >= x.Pid.N {
			return false
		}
	}
	return true
}

// find is where somebody stands among lives that may be; -1, if it is not alive.
func find(lives []api.Life, p api.Pid) int {
	i, there := slices.BinarySearchFunc(lives, p.N, func(x api.Life, n int) int { return cmp.Compare(x.Pid.N, n) })
	if !there || lives[i].Pid != p {
		return -1
	}
	return i
}

// tiesMayBe tells whether ties stand as they are told: links, then monitors.
func tiesMayBe(ties []api.Tie) bool {
	for i, x := range ties {
		if !tieMayBe(x) || i > 0 && compareTies(ties[i-1], x) >= 0 {
			return false
		}
	}
	return true
}

// tieMayBe tells whether a tie may be, by itself.
func tieMayBe(x api.Tie) bool {
	if x.Ref < 0 || x.Ref > api.MaxInt || !pidMayBe(x.A) || !pidMayBe(x.B) {
		return false
	}
	return x.Ref > 0 || comparePids(x.A, x.B) < 0
}

func comparePids(a, b api.Pid) int {
	return cmp.Or(cmp.Compare(a.N, b.N), cmp.Compare(a.Gen, b.Gen))
}

// compareTies tells how two ties stand: monitors by their refs alone, of which no two have the same; a link's is 0.
func compareTies(x, y api.Tie) int {
	if x.Ref != 0 || y.Ref != 0 {
		return cmp.Compare(x.Ref, y.Ref)
	}
	return cmp.Or(comparePids(x.A, y.A), comparePids(x.B, y.B))
}
