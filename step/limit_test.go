package step_test

import (
	"slices"
	"testing"

	"carousel/api"
)

// sample is an instruction with terms that it takes, such that it is done.
type sample struct {
	i     api.Instr
	terms []api.Term
	more  bool // it leaves more terms than it takes
	stays bool // it needs no place behind it
}

// samples are of all operations: each that can be done.
func samples() []sample {
	a, p, r := atom("a"), pid(3, 1), ref(9)
	l := []sample{
		{i: push(a), more: true}, {i: op(api.OpPop), terms: terms(a)}, {i: opA(api.OpDup, 0), terms: terms(a), more: true}, {i: opA(api.OpDup, 2), terms: terms(a, p, r), more: true},
		{i: opA(api.OpLoad, 2), more: true}, {i: opA(api.OpStore, 2), terms: terms(a)}, {i: opA(api.OpKind, 5), terms: terms(a)},
		{i: opA(api.OpTuple, 0), more: true}, {i: opA(api.OpTuple, 1), terms: terms(a)}, {i: opA(api.OpTuple, 3), terms: terms(a, p, r)}, {i: opA(api.OpList, 0), more: true}, {i: opA(api.OpList, 1), terms: terms(a)}, {i: opA(api.OpList, 3), terms: terms(a, p, r)},
		{i: opA(api.OpJump, 0), stays: true}, {i: opA(api.OpIf, 0), terms: terms(yes()), stays: true}, {i: opA(api.OpIf, 0), terms: terms(no())}, {i: match(0), terms: terms(a), stays: true}, {i: match(-1, arm(local(2), 1)), terms: terms(a), stays: true},
		{i: calls(0), more: true}, {i: calls(1), terms: terms(a)}, {i: calls(2), terms: terms(a, p)}, {i: ret(), terms: terms(a), stays: true},
		{i: op(api.OpSelf), more: true}, {i: op(api.OpNow), more: true}, {i: op(api.OpSend), terms: terms(p, r)}, {i: recv(0, -1), stays: true}, {i: spawn(0, 1), more: true}, {i: spawn(1, 1), terms: terms(a)}, {i: spawn(2, 1), terms: terms(a, p)},
		{i: op(api.OpTimer), terms: terms(in(1), a)}, {i: op(api.OpCancel), terms: terms(r)}, {i: op(api.OpLink), terms: terms(p)}, {i: op(api.OpUnlink), terms: terms(p)}, {i: op(api.OpMonitor), terms: terms(p)}, {i: op(api.OpDemon), terms: terms(r)}, {i: op(api.OpTrap), terms: terms(yes())},
		{i: op(api.OpName), terms: terms(a)}, {i: op(api.OpWhere), terms: terms(a)}, {i: op(api.OpOut), terms: terms(a)}, {i: op(api.OpExit), terms: terms(a), stays: true}, {i: op(api.OpYield)},
	}
	for _, n := range []int{api.OpAdd, api.OpSub, api.OpMul, api.OpDiv, api.OpRem, api.OpTurn, api.OpEq, api.OpLess} {
		l = append(l, sample{i: op(n), terms: terms(in(7), in(2))})
	}
	l = append(l, sample{i: op(api.OpElem), terms: terms(list(a), in(0))}, sample{i: op(api.OpCons), terms: terms(a, list())})
	for n, x := range map[int]api.Term{api.OpNeg: in(1), api.OpConj: in(1), api.OpNot: yes(), api.OpSize: list(), api.OpHead: list(a), api.OpTail: list(a)} {
		l = append(l, sample{i: op(n), terms: terms(x)})
	}
	return l
}

func TestSamplesAreOfAllOperations(t *testing.T) {
	seen := map[int]bool{}
	for _, x := range samples() {
		seen[x.i.Op] = true
	}
	for n := api.OpPush; n <= api.OpYield; n++ {
		if !seen[n] {
			t.Error("no sample of", n)
		}
	}
}

// high are stacks with so many terms in all, the last ones above the base: by one call, by two, by many.
func high(n int, above []api.Term) []api.View {
	below := row(n - len(above))
	all := append(below, above...)
	last := func(base int) api.Frame { return call(3, here, base, threeLocals()...) }
	half := len(below) / 2
	return []api.View{
		view(all, last(0)), view(all, last(len(below))), view(all, call(1, 1, half), last(len(below))), view(all, call(1, 1, half), last(half)),
		view(all, append(slices.Repeat([]api.Frame{call(2, 3, half)}, 40), last(len(below)))...),
	}
}

// wantAsModel does an instruction, and asks for what the second way has.
func wantAsModel(t *testing.T, m api.Module, v api.View, f api.Errno) {
	t.Helper()
	n, ask, cost, e := modelOf(v).do(m)
	if e != f {
		t.Fatalf("the second way tells %d, not %d", e, f)
	}
	if f != api.OK {
		wantNotDo(t, "an instruction of "+toldView(v), m, v, f)
		return
	}
	s := load(t, v)
	wantDo(t, "an instruction of "+toldView(v), m, s, ask, cost)
	holds(t, "an instruction of "+toldView(v), s, n.view())
}

// At MaxStack terms those are refused that leave more than they take, and no others; at one less none is.
func TestP102AtTheMostTerms(t *testing.T) {
	for _, x := range samples() {
		for n := 250; n <= 256; n++ {
			f := api.OK
			if n == 256 && x.more {
				f = api.ErrHigh
			}
			for _, v := range high(n, x.terms) {
				wantAsModel(t, bed(x.i), v, f)
			}
		}
	}
	for n := 250; n <= 256; n++ { // those that take many
		for _, k := range []int{api.OpTuple, api.OpList} {
			wantAsModel(t, bed(opA(k, n)), view(row(n), call(3, here, 0)), api.OK)
			wantAsModel(t, bed(opA(k, n)), view(row(n), call(3, here, 1)), api.ErrEmpty)
			wantAsModel(t, bed(opA(k, n-1)), view(row(n), call(3, here, 1)), api.OK)
		}
		f := api.OK
		if n == 256 {
			f = api.ErrHigh
		}
		wantAsModel(t, bed(opA(api.OpDup, n-1)), view(row(n), call(3, here, 0)), f)
		wantAsModel(t, bed(opA(api.OpDup, n-1)), view(row(n), call(3, here, 1)), api.ErrEmpty)
		wantAsModel(t, bed(opA(api.OpDup, n-2)), view(row(n), call(3, here, 1)), f)
		wantAsModel(t, bed(opA(api.OpDup, n)), view(row(n), call(3, here, 0)), api.ErrEmpty)
	}
}

// With one term fewer above the base than it takes, though there are terms below: ErrEmpty.
func TestP102WithOneTermFewer(t *testing.T) {
	for _, x := range samples() {
		for k := range x.terms {
			for _, m := range []api.Module{bed(x.i), lastPlace(x.i)} {
				wantNotDone(t, m, x.terms[:k], api.ErrEmpty)
				wantNotDo(t, show(x.i, x.terms[:k]), m, view(append(row(256-k), x.terms[:k]...), call(3, here, 256-k, threeLocals()...)), api.ErrEmpty)
				wantNotDo(t, show(x.i, x.terms[:k]), m, view(append(slices.Clone(x.terms), x.terms[:k]...), call(1, 1, 0), call(3, here, len(x.terms), threeLocals()...)), api.ErrEmpty)
			}
		}
	}
}

// At the last place of a function those go on that lead elsewhere, or nowhere; all others have nowhere to go on.
func TestP102AtTheLastPlace(t *testing.T) {
	for _, x := range samples() {
		m := lastPlace(x.i)
		for _, more := range [][]api.Term{nil, row(5)} {
			above := append(slices.Clone(more), x.terms...)
			f := api.ErrNone
			if x.stays {
				f = api.OK
			}
			for _, v := range beds(above, threeLocals()) {
				wantAsModel(t, m, v, f)
			}
		}
	}
}

// Of a function as long as it may be, the last place is one to go on at.
func TestP102OfTheLongestFunction(t *testing.T) {
	l := slices.Repeat([]api.Instr{op(api.OpYield)}, api.MaxCode)
	l[0] = opA(api.OpJump, api.MaxCode-1)
	m := mod(fun("f", 0, 0, l...))
	s := load(t, view(nil, call(0, 0, 0)))
	wantDo(t, "jump", m, s, none(), 1)
	holds(t, "jump", s, view(nil, call(0, 1023, 0)))
	wantNotDo(t, "yield at the last place", m, s.View(), api.ErrNone)
	s = load(t, view(nil, call(0, 1022, 0)))
	wantDo(t, "yield", m, s, ask(api.AskYield), 1)
	holds(t, "yield", s, view(nil, call(0, 1023, 0)))
	l[0].A = api.MaxCode
	wantNotDo(t, "jump", m, view(nil, call(0, 0, 0)), api.ErrNone)
}
