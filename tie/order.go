package tie

import (
	"cmp"

	"carousel/api"
)

func pidMayBe(p api.Pid) bool {
	return p.N >= 0 && p.N < api.MaxActors && p.Gen >= 1 && p.Gen <= api.MaxInt
}

// tieMayBe tells whether a tie may be, by itself, as it is told: a link's A stands ahead of its B.
func tieMayBe(x api.Tie) bool {
	if x.Ref < 0 || x.Ref > api.MaxInt || !pidMayBe(x.A) || !pidMayBe(x.B) {
		return false
	}
	return x.Ref > 0 || comparePids(x.A, x.B) < 0
}

// comparePids tells how two pids stand.
func comparePids(a, b api.Pid) int {
	return cmp.Or(cmp.Compare(a.N, b.N), cmp.Compare(a.Gen, b.Gen))
}

// compareTies tells how two ties stand: links by those whom they tie, monitors by their refs alone, of which no two have the same; 0 is a link's.
func compareTies(x, y api.Tie) int {
	if x.Ref != 0 || y.Ref != 0 {
		return cmp.Compare(x.Ref, y.Ref)
	}
	return cmp.Or(comparePids(x.A, y.A), comparePids(x.B, y.B))
}
