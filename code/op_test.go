package code_test

import (
	"strconv"
	"strings"
	"testing"

	"carousel/api"
	"carousel/code"
)

// table is the document's: of each operation, in order, its name, how many terms it takes and leaves (-1: by its fields), its cost.
const table = `push 0 1 1, pop 1 0 1, dup -1 -1 1, load 0 1 1, store 1 0 1,
add 2 1 1, sub 2 1 1, mul 2 1 1, div 2 1 1, rem 2 1 1, neg 1 1 1, conj 1 1 1, turn 2 1 1, eq 2 1 1, less 2 1 1, not 1 1 1,
kind 1 1 1, tuple -1 1 2, list -1 1 2, elem 2 1 1, size 1 1 1, cons 2 1 1, head 1 1 1, tail 1 1 1,
jump 0 0 1, if 1 0 1, match 1 0 2, call -1 1 2, ret 1 0 1, self 0 1 1, now 0 1 1, send 2 1 4, recv 0 0 2, spawn -1 1 8,
timer 2 1 2, cancel 1 1 2, link 1 1 2, unlink 1 1 2, monitor 1 1 2, demon 1 1 2, trap 1 0 1, name 1 1 2, where 1 1 2, out 1 0 2, exit 1 0 1, yield 0 0 1`

type row struct {
	op            int
	name          string
	takes, leaves int
	cost          int
}

func rows() []row {
	var l []row
	for k, s := range strings.Split(table, ",") {
		w := strings.Fields(s)
		r := row{op: k + 1, name: w[0]}
		for i, n := range []*int{&r.takes, &r.leaves, &r.cost} {
			*n, _ = strconv.Atoi(w[i+1])
		}
		l = append(l, r)
	}
	return l
}

// noOps are numbers of no operation.
func noOps() []int { return append(wild(), 0, -1, -2, -46, 47, 48, 93, 256+1) }

// fields are what an instruction may have in its fields, whether it may be or not.
func fields() []api.Instr {
	return []api.Instr{
		{}, {A: 1}, {A: 3, B: 2}, {A: -1}, {A: 300}, {B: -1}, {B: most}, {A: least, B: least}, {A: most}, {Term: in(1)}, {Term: endlessTerm()}, {Term: api.Term{Kind: 99}},
		{Arms: arms(0)}, {Arms: arms(-1, most)}, {Arms: []api.Arm{{Pattern: endlessPattern()}}}, {A: 2, B: 1, Term: atom("a"), Arms: make([]api.Arm, 33)},
	}
}

func TestP61Table(t *testing.T) {
	l := rows()
	if len(l) != 46 || l[0].op != api.OpPush || l[45].op != api.OpYield || l[33].op != api.OpSpawn || l[33].name != "spawn" {
		t.Fatal("the test's own table:", l)
	}
}

func TestP61Op(t *testing.T) {
	for _, r := range rows() {
		if s, e := code.Op(r.op); s != r.name || e != api.OK {
			t.Errorf("Op(%d): %q, %d", r.op, s, e)
		}
		if n, e := code.OpOf(r.name); n != r.op || e != api.OK {
			t.Errorf("OpOf(%q): %d, %d", r.name, n, e)
		}
	}
	for _, n := range noOps() {
		if s, e := code.Op(n); s != "" || e != api.ErrNone {
			t.Errorf("Op(%d): %q, %d", n, s, e)
		}
	}
}

func TestP61OpOfWrongNames(t *testing.T) {
	l := []string{"", " ", "op", "Op", "OpPush", "oppush", "nil", "true", "1", "46", "_", "\x00", "é", "push1", "push 1", "push,", strings.Repeat("push", 1000), "pushpop", "float", "goto"}
	for _, r := range rows() {
		l = append(l, strings.ToUpper(r.name), strings.ToUpper(r.name[:1])+r.name[1:], r.name+" ", " "+r.name, r.name+"s", r.name+"\x00", r.name+"\n", r.name[1:], r.name[:len(r.name)-1]+"_", r.name+r.name)
	}
	for _, s := range l {
		if n, e := code.OpOf(s); n != 0 || e != api.ErrNone {
			t.Errorf("OpOf(%q): %d, %d", s, n, e)
		}
	}
}

// What an instruction costs hangs on its operation alone.
func TestP61Cost(t *testing.T) {
	for _, i := range fields() {
		for _, r := range rows() {
			i.Op = r.op
			if n, e := code.Cost(i); n != r.cost || e != api.OK {
				t.Errorf("Cost of %s: %d, %d, not %d", r.name, n, e, r.cost)
			}
		}
		for _, n := range noOps() {
			i.Op = n
			if n, e := code.Cost(i); n != 0 || e != api.ErrCode {
				t.Errorf("Cost of operation %d: %d, %d", i.Op, n, e)
			}
		}
	}
}

func wantEffect(t *testing.T, m api.Module, i api.Instr, takes, leaves int, want api.Errno) {
	t.Helper()
	if a, b, e := code.Effect(m, i); a != takes || b != leaves || e != want {
		t.Errorf("Effect of operation %d, A %d, of a module of %d functions: %d, %d, %d, not %d, %d, %d", i.Op, i.A, len(m.Funcs), a, b, e, takes, leaves, want)
	}
}

// modules are such as Effect may be asked of: it does not ask whether they may be.
func modules() []api.Module {
	return []api.Module{{}, plain(ret()), mod(funcs(3)...), mod(funcs(100)...), {Name: "nil", Funcs: []api.Func{{}}}}
}

func TestP61Effect(t *testing.T) {
	for _, m := range modules() {
		for _, i := range fields() {
			for _, r := range rows() {
				i.Op = r.op
				if r.takes >= 0 {
					wantEffect(t, m, i, r.takes, r.leaves, api.OK)
				}
			}
			for _, n := range noOps() {
				i.Op = n
				wantEffect(t, m, i, 0, 0, api.ErrCode)
			}
		}
	}
}

// How many terms: from 0 to MaxStack.
func TestP61EffectOfManyTerms(t *testing.T) {
	for _, m := range modules() {
		for _, i := range fields() {
			for _, a := range []int{0, 1, 2, 3, 254, 255, 256} {
				i.A = a
				i.Op = api.OpDup
				wantEffect(t, m, i, a+1, a+2, api.OK)
				i.Op = api.OpTuple
				wantEffect(t, m, i, a, 1, api.OK)
				i.Op = api.OpList
				wantEffect(t, m, i, a, 1, api.OK)
			}
			for _, a := range append(wild(), -1, -2, 257, 258) {
				i.A = a
				for _, n := range []int{api.OpDup, api.OpTuple, api.OpList} {
					i.Op = n
					wantEffect(t, m, i, 0, 0, api.ErrCode)
				}
			}
		}
	}
}

func TestP61EffectOfCalls(t *testing.T) {
	params := []int{0, 1, 2, 32, 33, 256, 257, most, -1, least, 5}
	var l []api.Func
	for _, n := range params {
		l = append(l, api.Func{Params: n})
	}
	room := append(l, api.Func{Params: 7})
	for _, i := range fields() {
		for _, n := range []int{api.OpCall, api.OpSpawn} {
			i.Op = n
			for a, p := range params {
				i.A = a
				if p < 0 {
					wantEffect(t, mod(l...), i, 0, 0, api.ErrCode)
				} else {
					wantEffect(t, mod(l...), i, p, 1, api.OK)
				}
			}
			for _, a := range append(wild(), -1, -2, len(l), len(l)+1) {
				i.A = a
				wantEffect(t, api.Module{Name: "m", Funcs: room[:len(l)]}, i, 0, 0, api.ErrCode)
			}
			i.A = 0
			wantEffect(t, api.Module{}, i, 0, 0, api.ErrCode)
			i.A = 99
			wantEffect(t, mod(funcs(100)...), i, 0, 1, api.OK)
		}
	}
}

func TestP66CostsAndNames(t *testing.T) {
	seen := map[string]bool{}
	for n := api.OpPush; n <= api.OpYield; n++ {
		cost, e := code.Cost(op(n))
		if cost < 1 || cost > api.MaxCost || e != api.OK {
			t.Errorf("Cost of operation %d: %d, %d", n, cost, e)
		}
		s, e := code.Op(n)
		if back, f := code.OpOf(s); back != n || e != api.OK || f != api.OK || seen[s] {
			t.Errorf("operation %d is %q, and that is %d", n, s, back)
		}
		seen[s] = true
	}
	if api.MaxCost > api.Budget {
		t.Error("MaxCost is above Budget")
	}
	if n, _ := code.Cost(op(api.OpSpawn)); n != api.MaxCost {
		t.Error("the dearest operation does not cost MaxCost:", n)
	}
}
