package code_test

import (
	"math"
	"slices"
	"testing"

	"carousel/api"
	"carousel/code"
)

// spot is a place, and how many terms there are.
type spot struct{ at, height int }

// walked goes all ways through a function, and tells of each place at which heights it was come to; how a way may end and what it may do is asked on the way.
func walked(t *testing.T, m api.Module, fn int) map[int][]int {
	l := m.Funcs[fn].Code
	seen, ways := map[spot]bool{}, []spot{{0, 0}}
	heights := map[int][]int{}
	for len(ways) > 0 {
		x := ways[len(ways)-1]
		ways = ways[:len(ways)-1]
		if seen[x] {
			continue
		}
		seen[x] = true
		heights[x.at] = append(heights[x.at], x.height)
		i := l[x.at]
		takes, leaves := modelEffect(m, i)
		if takes > x.height || x.height-takes+leaves > api.MaxStack {
			t.Fatalf("%s: at %d an instruction takes %d of %d", show(m), x.at, takes, x.height)
		}
		on := modelLeads(i, x.at)
		if len(on) == 0 && i.Op != api.OpRet && i.Op != api.OpExit && i.Op != api.OpRecv {
			t.Fatalf("%s: a way ends at %d", show(m), x.at)
		}
		for _, to := range on {
			if to < 0 || to >= len(l) {
				t.Fatalf("%s: at %d a way leads out of its function", show(m), x.at)
			}
			ways = append(ways, spot{to, x.height - takes + leaves})
		}
	}
	return heights
}

// wantSafe goes all ways through a module that may be run.
func wantSafe(t *testing.T, m api.Module) {
	t.Helper()
	for fn, f := range m.Funcs {
		want, e := code.Heights(m, fn)
		if e != api.OK || len(want) != len(f.Code) {
			t.Fatalf("Heights of %s: %v, %d", show(m), want, e)
		}
		got := walked(t, m, fn)
		for at, h := range want {
			if h == -1 && len(got[at]) > 0 || h != -1 && !slices.Equal(got[at], []int{h}) {
				t.Fatalf("%s: at %d the heights are %v, not %d", show(m), at, got[at], h)
			}
		}
	}
}

func TestP64Safe(t *testing.T) {
	count := 0
	try := func(m api.Module) {
		if e, _, _ := code.Check(m); e == api.OK {
			wantSafe(t, m)
			count++
		}
	}
	for n := range 4 {
		strung(some(n+1), n+1, func(row []api.Instr) { try(plain(row...)) })
	}
	x := numbers(3)
	for range 20000 {
		var row []api.Instr
		for range 8 {
			row = append(row, x.drawn(8, 4))
		}
		try(mod(fun("f", 0, 0, append(row, stop())...), fun("g", 1, 1, opA(api.OpLoad, 0), ret()), fun("h", 2, 2, stop())))
	}
	try(plain(line(256, one(), ret())...))
	try(plain(line(1023, op(api.OpYield), jump(0))...))
	if count < 1000 {
		t.Error("too few modules that may be run:", count)
	}
}

// What is never come to may be made whatever may be: nothing else is changed by that.
func TestP65NeverComeTo(t *testing.T) {
	count := 0
	try := func(row []api.Instr) {
		m := mod(fun("f", 0, 2, row...), fun("g", 2, 2, stop()))
		want, e := code.Heights(m, 0)
		if e != api.OK {
			return
		}
		for at, h := range want {
			if h != -1 {
				continue
			}
			for _, i := range samples() {
				other := slices.Clone(row)
				other[at] = i
				m := mod(fun("f", 0, 2, other...), fun("g", 2, 2, stop()))
				if got, e := code.Heights(m, 0); !slices.Equal(got, want) || e != api.OK {
					t.Fatalf("Heights of %s: %v, %d, not %v", show(m), got, e, want)
				}
				wantCheck(t, m, api.OK, 0, 0)
				count++
			}
		}
	}
	strung(some(3), 3, try)
	strung([]api.Instr{one(), pop(), jump(3), iff(2), ret(), stop()}, 4, try)
	if count < 1000 {
		t.Error("too few places that are never come to:", count)
	}
}

// Calls end, and none panics, whatever they are given.
func TestR1WildArguments(t *testing.T) {
	var funcs []api.Func
	for _, n := range append(wild(), -1, 0, 1, 32) {
		for _, i := range fields() {
			for _, k := range append(noOps(), api.OpPush, api.OpDup, api.OpMatch, api.OpRecv, api.OpCall) {
				i.Op = k
				funcs = append(funcs, fun("f", n, n, i, ret()), fun("f", 0, 32, stop(), i))
			}
		}
	}
	for _, f := range funcs {
		for _, m := range []api.Module{mod(f), mod(fun("g", 0, 0, stop()), f), {Name: "\xff", Funcs: []api.Func{f}}} {
			e, fn, at := code.Check(m)
			if want, f, n := modelCheck(m); e != want || fn != f || at != n {
				t.Errorf("Check of %s: %d, %d, %d, not %d, %d, %d", show(m), e, fn, at, want, f, n)
			}
			for _, i := range f.Code {
				code.Cost(i)
				code.Effect(m, i)
			}
		}
	}
	deep := push(api.Term{Kind: api.KindComplex, C: complex(math.NaN(), math.Inf(1))})
	wantRefused(t, plain(deep, ret()), api.ErrCode, 0, 0)
}

// What is handed in is not changed, what lies behind a list's end is none of it, and what is answered is new.
func TestR3NewMemory(t *testing.T) {
	room := []api.Instr{one(), recv(2, 5, arms(2, 9)[:1]...), ret(), op(99), jump(-1)}
	l := []api.Func{fun("f", 0, 0, room[:3]...), fun("f", 9, 0)}
	m := api.Module{Name: "m", Funcs: l[:1]}
	a, e := code.Heights(m, 0)
	b, f := code.Heights(m, 0)
	if !slices.Equal(a, []int{0, 1, 1}) || e != api.OK || f != api.OK {
		t.Fatal("Heights:", a, e, f)
	}
	clear(a[:cap(a)])
	if !slices.Equal(b, []int{0, 1, 1}) {
		t.Error("two answers share their memory:", b)
	}
	wantCheck(t, m, api.OK, 0, 0)
	if room[3].Op != 99 || room[4].A != -1 || l[1].Params != 9 || room[1].Arms[:2][1].To != 9 || len(room[1].Arms) != 1 || room[1].A != 2 || room[0].Term.N != 1 {
		t.Error("what was handed in is changed:", room, l)
	}
}

// What is asked of one module changes nothing of what is told of another, or of it again.
func TestR4AskedAgain(t *testing.T) {
	good, bad := plain(push(yes()), iff(4), one(), ret(), stop()), plain(push(yes()), iff(3), one(), ret())
	for range 3 {
		wantHeights(t, good, 0, 0, 1, 0, 1, 0)
		wantRefused(t, bad, api.ErrHeight, 0, 2)
		wantRefused(t, api.Module{}, api.ErrModule, 0, 0)
		wantEffect(t, good, opA(api.OpCall, 0), 0, 1, api.OK)
		wantEffect(t, api.Module{}, opA(api.OpCall, 0), 0, 0, api.ErrCode)
	}
}

// The greatest module that may be is answered at once, not by going through it again and again.
func TestP63TheGreatestModule(t *testing.T) {
	back := make([]api.Instr, api.MaxCode)
	for k := range back {
		back[k] = recv(max(k-1, 1), 0, arms(slices.Repeat([]int{max(k-1, 1)}, api.MaxArms)...)...)
	}
	back[0] = jump(api.MaxCode - 1)
	l := funcs(api.MaxFuncs)
	for fn := range l {
		l[fn].Code = back
	}
	wantCheck(t, mod(l...), api.OK, 0, 0)
	wantHeights(t, mod(l...), 63, make([]int, api.MaxCode)...)
	if n, e := code.Find(mod(l...), "f63"); n != 63 || e != api.OK {
		t.Error("Find:", n, e)
	}
}
