package homes_test

import (
	"math/big"
	"testing"

	"carousel/api"
	"carousel/homes"
)

func wantMod(t *testing.T, raw, n, rest int) {
	t.Helper()
	if got, e := homes.Mod(raw, n); got != rest || e != api.OK {
		t.Fatalf("Mod(%d, %d): %d, %d, not %d", raw, n, got, e, rest)
	}
}

func wantNoMod(t *testing.T, raw, n int) {
	t.Helper()
	if got, e := homes.Mod(raw, n); got != 0 || e != api.ErrArg {
		t.Fatalf("Mod(%d, %d): %d, %d", raw, n, got, e)
	}
}

func TestHo3Mod(t *testing.T) {
	for _, x := range [][3]int{
		{0, 1, 0}, {0, 3, 0}, {0, most, 0}, {1, 1, 0}, {1, 2, 1}, {2, 2, 0}, {3, 2, 1}, {7, 3, 1}, {15, 16, 15}, {16, 16, 0}, {17, 16, 1}, {35, 3, 2},
		{-1, 1, 0}, {-1, 2, 1}, {-1, 3, 2}, {-2, 3, 1}, {-3, 3, 0}, {-4, 3, 2}, {-9, 3, 0}, {-1, 16, 15}, {-16, 16, 0}, {-17, 16, 15}, {-35, 3, 1},
		{most, 1, 0}, {most, 2, 1}, {most, 7, 0}, {most, 16, 15}, {most, most, 0}, {most - 1, most, most - 1}, {most, most - 1, 1}, {1, most, 1},
		{least, 1, 0}, {least, 2, 0}, {least, 3, 1}, {least, 16, 0}, {least, most, most - 1}, {least + 1, most, 0}, {least + 2, most, 1}, {-1, most, most - 1}, {least, most - 1, most - 3},
		{api.MaxInt, 16, 15}, {api.MinInt, 16, 1}, {api.MaxInt, api.MaxInt, 0}, {api.MinInt, api.MaxInt, 0}, {-1, api.MaxInt, api.MaxInt - 1},
	} {
		wantMod(t, x[0], x[1], x[2])
	}
}

func TestHo3ModOfNoNumber(t *testing.T) {
	for _, n := range []int{0, -1, -2, -3, -16, -1 << 32, api.MinInt, least + 1, least} {
		for _, raw := range wild() {
			wantNoMod(t, raw, n)
		}
	}
}

// All small ones: one further on, from 0 on, and again from 0; so, too, from below 0.
func TestHo3ModCounts(t *testing.T) {
	for n := 1; n <= 70; n++ {
		rest := 0
		for raw := -20 * n; raw <= 20*n; raw++ {
			wantMod(t, raw, n, rest)
			if rest++; rest == n {
				rest = 0
			}
		}
	}
}

// Ints of all kinds and drawn ones, held against numbers without bounds.
func TestHo3ModOfAllKinds(t *testing.T) {
	var d draw = 3
	raws, ns := wild(), []int{1, 2, 3, 15, 16, 17, 64, 1 << 32, 1<<32 - 1, 1 << 62, api.MaxInt, most - 1, most}
	for range 300 {
		raws = append(raws, d.below(1<<31)<<33>>d.below(64), -d.below(1<<31)<<32>>d.below(64))
		ns = append(ns, 1+d.below(1<<31)<<31>>d.below(62))
	}
	for _, raw := range raws {
		for _, n := range ns {
			rest := new(big.Int).Mod(big.NewInt(int64(raw)), big.NewInt(int64(n)))
			wantMod(t, raw, n, int(rest.Int64()))
		}
	}
}
