package code_test

import (
	"regexp"
	"slices"
	"testing"

	"carousel/api"
	"carousel/code"
	"carousel/pattern"
	"carousel/text"
)

// The model does what the document's words say, step by step, to hold the package against: names by a form, fields by building the instruction anew, heights by a map.

var nameForm = regexp.MustCompile(`\A[a-z][a-zA-Z0-9_]{0,63}\z`)

func isName(s string) bool {
	return nameForm.MatchString(s) && s != "nil" && s != "true" && s != "false"
}

func modelCheck(m api.Module) (api.Errno, int, int) {
	if !isName(m.Name) || len(m.Funcs) < 1 || len(m.Funcs) > 64 {
		return api.ErrModule, 0, 0
	}
	seen := map[string]bool{}
	for fn, f := range m.Funcs {
		if !isName(f.Name) || seen[f.Name] || f.Params < 0 || f.Params > f.Locals || f.Locals > 32 || len(f.Code) < 1 || len(f.Code) > 1024 {
			return api.ErrModule, fn, 0
		}
		seen[f.Name] = true
	}
	for fn, f := range m.Funcs {
		for at, i := range f.Code {
			if !modelMayBe(m, f, i) {
				return api.ErrCode, fn, at
			}
			for _, to := range modelPlaces(i) {
				if to < 0 || to >= len(f.Code) {
					return api.ErrJump, fn, at
				}
			}
		}
	}
	for fn := range m.Funcs {
		if _, e, at := modelHeights(m, fn); e != api.OK {
			return e, fn, at
		}
	}
	return api.OK, 0, 0
}

// modelMayBe builds an instruction of nothing but what its operation names.
func modelMayBe(m api.Module, f api.Func, i api.Instr) bool {
	want := api.Instr{Op: i.Op}
	in := func(n, least, most int) bool { return least <= n && n <= most }
	ok := in(i.Op, 1, 46)
	for _, field := range named(i.Op) {
		switch field {
		case 'A':
			want.A = i.A
		case 'B':
			want.B = i.B
		case 'T':
			want.Term = i.Term
		case 'R':
			want.Arms = i.Arms
		}
	}
	switch i.Op {
	case api.OpPush:
		_, e := text.Print(i.Term)
		ok = e == api.OK
	case api.OpDup:
		ok = in(i.A, 0, 254)
	case api.OpLoad, api.OpStore:
		ok = i.A >= 0 && i.A < f.Locals
	case api.OpKind:
		ok = in(i.A, 1, 9)
	case api.OpTuple, api.OpList:
		ok = in(i.A, 0, 255)
	case api.OpCall, api.OpSpawn:
		ok = in(i.A, 0, len(m.Funcs)-1) && in(i.B, 0, 2)
	case api.OpRecv:
		ok = in(i.B, -1, 1<<20) && (i.B >= 0 || i.A == 0)
	}
	for _, a := range i.Arms {
		ok = ok && pattern.Check(a.Pattern, f.Locals) == api.OK
	}
	t, w := i.Term, want.Term
	return ok && i.A == want.A && i.B == want.B && t.Kind == w.Kind && t.N == w.N && t.C == w.C && t.S == w.S && t.P == w.P && len(t.L) == len(w.L) && len(i.Arms) == len(want.Arms) && len(i.Arms) <= 32
}

// modelPlaces are the places in an instruction.
func modelPlaces(i api.Instr) []int {
	var l []int
	if slices.Contains([]int{api.OpJump, api.OpIf, api.OpMatch}, i.Op) || i.Op == api.OpRecv && i.B != -1 {
		l = append(l, i.A)
	}
	for _, a := range i.Arms {
		l = append(l, a.To)
	}
	return l
}

// modelLeads are the places to which an instruction leads.
func modelLeads(i api.Instr, at int) []int {
	if slices.Contains([]int{api.OpJump, api.OpMatch, api.OpRecv, api.OpRet, api.OpExit}, i.Op) {
		return modelPlaces(i)
	}
	return slices.Concat([]int{at + 1}, modelPlaces(i))
}

// modelEffect is by the document's table, of an instruction that may be.
func modelEffect(m api.Module, i api.Instr) (takes, leaves int) {
	switch i.Op {
	case api.OpDup:
		return i.A + 1, i.A + 2
	case api.OpTuple, api.OpList:
		return i.A, 1
	case api.OpCall, api.OpSpawn:
		return m.Funcs[i.A].Params, 1
	}
	r := theRows[i.Op-1]
	return r.takes, r.leaves
}

var theRows = rows()

func modelHeights(m api.Module, fn int) (map[int]int, api.Errno, int) {
	code := m.Funcs[fn].Code
	heights, gone := map[int]int{0: 0}, map[int]bool{}
	for len(gone) < len(heights) {
		at := len(code)
		for place := range heights {
			if !gone[place] {
				at = min(at, place)
			}
		}
		gone[at] = true
		takes, leaves := modelEffect(m, code[at])
		behind := heights[at] - takes + leaves
		if takes > heights[at] || behind > 256 {
			return nil, api.ErrHeight, at
		}
		for _, to := range modelLeads(code[at], at) {
			if to == len(code) {
				return nil, api.ErrFall, at
			}
			if h, ok := heights[to]; ok && h != behind {
				return nil, api.ErrHeight, at
			}
			heights[to] = behind
		}
	}
	return heights, api.OK, 0
}

// held holds a module against the model, and tells what is told of it.
func held(t *testing.T, m api.Module) api.Errno {
	t.Helper()
	e, fn, at := modelCheck(m)
	wantCheck(t, m, e, fn, at)
	for fn, f := range m.Funcs {
		h, g := code.Heights(m, fn)
		var want []int
		if e == api.OK {
			heights, _, _ := modelHeights(m, fn)
			for at := range f.Code {
				if n, ok := heights[at]; ok {
					want = append(want, n)
				} else {
					want = append(want, -1)
				}
			}
		}
		if !slices.Equal(h, want) || g != e {
			t.Errorf("Heights of %s, function %d: %v, %d, not %v, %d", show(m), fn, h, g, want, e)
		}
	}
	return e
}

// strung calls do with all rows of so many of the given instructions.
func strung(l []api.Instr, n int, do func([]api.Instr)) {
	row := make([]api.Instr, n)
	var set func(at int)
	set = func(at int) {
		if at == n {
			do(row)
			return
		}
		for _, i := range l {
			row[at] = i
			set(at + 1)
		}
	}
	set(0)
}

// some are instructions for rows: those of which the heights hang on which way is gone.
func some(places int) []api.Instr {
	l := []api.Instr{one(), pop(), ret(), op(api.OpAdd), stop()}
	for to := range places {
		l = append(l, jump(to), iff(to), recv(0, -1, arms(to)...))
	}
	return append(l, match(0, arms(places-1)...), match(places-1, arms(1%places, 0)...), recv(places-1, 3, arms(0)...))
}

// enough tells of a count of answers too few of a kind.
func enough(t *testing.T, count map[api.Errno]int, kinds ...api.Errno) {
	t.Helper()
	for _, e := range kinds {
		if count[e] < 20 {
			t.Error("too few of", e, count)
		}
	}
}

func TestP62AllShortFunctions(t *testing.T) {
	count := map[api.Errno]int{}
	for n := range 4 {
		strung(some(n+1), n+1, func(row []api.Instr) { count[held(t, plain(row...))]++ })
	}
	l := []api.Instr{one(), pop(), jump(1), iff(3), iff(4), match(0, arms(2)...), recv(0, -1, arms(4, 1)...)}
	strung(l, 5, func(row []api.Instr) { count[held(t, plain(row...))]++ })
	l = []api.Instr{one(), pop(), jump(1), jump(5), iff(3), iff(5)}
	strung(l, 6, func(row []api.Instr) { count[held(t, plain(row...))]++ })
	strung(append(some(4), jump(3), jump(-1), op(0), opA(api.OpLoad, 0), match(9, arms(0)...)), 3, func(row []api.Instr) { count[held(t, plain(row...))]++ })
	enough(t, count, api.OK, api.ErrHeight, api.ErrFall, api.ErrJump, api.ErrCode)
}

// Calls, spawns, tuples and locals of all small numbers of parameters.
func TestP62AllShortFunctionsWithCalls(t *testing.T) {
	count := map[api.Errno]int{}
	l := []api.Instr{one(), opA(api.OpCall, 0), opA(api.OpCall, 1), opA(api.OpCall, 2), spawn(1, 2), spawn(0, 3), opA(api.OpTuple, 2), opA(api.OpDup, 1), opA(api.OpLoad, 1), opA(api.OpStore, 0), match(3, arm(local(1), 2)), ret()}
	for params := range 3 {
		for locals := range 3 {
			strung(l, 4, func(row []api.Instr) {
				count[held(t, mod(fun("f", params, locals, row...), fun("g", 1, 1, stop())))]++
			})
		}
	}
	enough(t, count, api.OK, api.ErrHeight, api.ErrFall, api.ErrModule, api.ErrCode)
}

// numbers are told one by one by a rule that is the same each time.
type numbers uint64

// below is a number from 0 on and below n.
func (x *numbers) below(n int) int {
	*x = *x*6364136223846793005 + 1442695040888963407
	return int(uint64(*x)>>33) % n
}

// drawn is an instruction for a function of so many places; with grow more of those that leave terms.
func (x *numbers) drawn(places, grow int) api.Instr {
	to := func() int { return x.below(places) }
	if x.below(10) < grow {
		return []api.Instr{one(), op(api.OpSelf), opA(api.OpTuple, 0), opA(api.OpCall, 0)}[x.below(4)]
	}
	switch x.below(12) {
	case 0:
		return jump(to())
	case 1:
		return iff(to())
	case 2:
		return match(to(), arms(to(), to())...)
	case 3:
		return recv(to(), 5, arms(to())...)
	case 4:
		return recv(0, -1, arms(to(), to())...)
	case 5:
		return opA(api.OpCall, x.below(3))
	case 6:
		return opA(api.OpDup, x.below(3))
	case 7:
		return opA(api.OpList, x.below(4))
	case 8:
		return []api.Instr{ret(), op(api.OpExit), stop()}[x.below(3)]
	case 9:
		return []api.Instr{op(api.OpNeg), op(api.OpAdd), op(api.OpSend), op(api.OpYield)}[x.below(4)]
	}
	return pop()
}

// Longer functions, drawn by a rule: nearly all are refused somewhere.
func TestP62DrawnFunctions(t *testing.T) {
	count := map[api.Errno]int{}
	x := numbers(1)
	for range 20000 {
		places := 4 + x.below(12)
		var row []api.Instr
		for range places {
			row = append(row, x.drawn(places, 3))
		}
		row = append(row, stop())
		count[held(t, mod(fun("f", 0, 0, row...), fun("g", 1, 1, stop()), fun("h", 2, 2, stop())))]++
	}
	enough(t, count, api.OK, api.ErrHeight)
}

// Functions all of whose ways are right: their heights are drawn first, and the instructions by them.
func TestP62DrawnFunctionsThatMayBe(t *testing.T) {
	x := numbers(2)
	for range 300 {
		places := 20 + x.below(200)
		wants := make([]int, places)
		for at := 1; at < places; at++ {
			wants[at] = max(0, wants[at-1]+x.below(3)-1)
		}
		row := make([]api.Instr, places)
		for at := range places {
			row[at] = x.fitting(wants, at)
		}
		m := plain(append(row, stop())...)
		if e := held(t, m); e != api.OK {
			t.Errorf("a function whose ways are right: %s: %d", show(m), e)
		}
	}
}

// fitting is an instruction that fits the heights that are drawn.
func (x *numbers) fitting(wants []int, at int) api.Instr {
	like := func(height int) []int {
		var l []int
		for to, h := range wants {
			if h == height && x.below(2) == 0 {
				l = append(l, to)
			}
		}
		return l[:min(len(l), 32)]
	}
	if l := like(wants[at]); len(l) > 0 && x.below(3) == 0 {
		return []api.Instr{jump(l[0]), recv(0, -1, arms(l...)...), recv(l[0], 2, arms(l...)...)}[x.below(3)]
	}
	if l := like(wants[at] - 1); len(l) > 0 && x.below(3) == 0 {
		return match(l[0], arms(l...)...)
	}
	if at+1 == len(wants) {
		return stop()
	}
	switch wants[at+1] - wants[at] {
	case 1:
		return one()
	case -1:
		if l := like(wants[at+1]); len(l) > 0 {
			return iff(l[0])
		}
		return pop()
	}
	return op(api.OpYield)
}

// Samples with one field changed, in modules with a name, a number or a function changed.
func TestP62ChangedModules(t *testing.T) {
	count := map[api.Errno]int{}
	for _, i := range samples() {
		for _, n := range append(wild(), -2, -1, 0, 1, 2, 3, 9, 10, 46, 47, 255, 256) {
			for field := range 5 {
				j := i
				j.Arms = slices.Clone(i.Arms)
				switch field {
				case 0:
					j.Op = n
				case 1:
					j.A = n
				case 2:
					j.B = n
				case 3:
					j.Term.N = n
				case 4:
					j.Arms = append(j.Arms, arm(local(n), n))
				}
				f := fun("f", 1, 2, one(), j, ret())
				count[held(t, mod(f, fun("g", 0, 0, stop())))]++
				f.Params = n
				count[held(t, mod(fun("g", 0, 0, stop()), f))]++
			}
		}
	}
	enough(t, count, api.OK, api.ErrHeight, api.ErrJump, api.ErrCode, api.ErrModule)
}
