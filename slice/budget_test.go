package slice_test

import (
	"fmt"
	"slices"
	"strings"
	"testing"

	"carousel/api"
	"carousel/frame"
	"carousel/slice"
)

// What may be a budget, and what may not.
func TestSl1Budgets(t *testing.T) {
	m := prog(t, "jump 0")
	for _, budget := range []int{least, -api.MaxTicks, -8, -1, 0, 1, api.MaxCost - 1, api.MaxTicks + 1, most} {
		s := begun(t, m, 0)
		x, e := slice.Run(m, s, budget, late().world())
		if e != api.ErrArg || !sameSlice(x, api.Slice{}) {
			t.Errorf("the budget %d: %s, %d", budget, toldSlice(x), e)
		}
		holds(t, "a budget that may not be", s, view(nil, call(0, 0, 0, nulls(2)...)))
	}
	for _, budget := range []int{api.MaxCost, api.MaxCost + 1, 10, api.Budget - 1, api.Budget, api.Budget + 1, 1000, api.MaxTicks - 1, api.MaxTicks} {
		wantRun(t, fmt.Sprint("the budget ", budget), m, begun(t, m, 0), budget, late(), yield(budget-7, budget-7))
	}
}

// costly are programs that go through so many instructions that cost 1, then one that costs some, then on for ever by ones.
func costly(t *testing.T, ones, cost int) api.Module {
	t.Helper()
	l := []string{"push a", "push a"}
	for k := range ones - 2 {
		l = append(l, fmt.Sprint("jump ", k+3))
	}
	l = append(l, map[int]string{1: "eq", 2: "tuple 2", 4: "send", 8: "spawn 1 0"}[cost], fmt.Sprint("jump ", ones+1), "func g 2 2", "jump 0")
	return prog(t, strings.Join(l, "; "))
}

// Spent but for MaxCost the budget still lets one instruction be done, whatever it costs; spent but for one less it does not.
func TestSl1SpentButForMaxCost(t *testing.T) {
	for _, cost := range []int{1, 2, 4, 8} {
		for _, budget := range []int{20, 63, api.Budget, 65, 500} {
			for ones := budget - 16; ones <= budget; ones++ {
				if ones < 2 {
					continue
				}
				x := yield(min(ones, budget-7), min(ones, budget-7))
				if ones <= budget-api.MaxCost {
					x = yield(ones+1, ones+cost)
					more := max(budget-7-x.Reds, 0)
					x = yield(x.Steps+more, x.Reds+more)
				}
				m := costly(t, ones, cost)
				l := late()
				wantRun(t, fmt.Sprintf("%d, then %d, of %d", ones, cost, budget), m, begun(t, m, 0), budget, l, x)
				if asked := ones <= budget-api.MaxCost && cost >= 4; asked != (len(l.asks) == 1) {
					t.Errorf("%d, then %d, of %d: the world is asked %v", ones, cost, budget, l.kinds())
				}
			}
		}
	}
}

// spend is how many of the instructions that cost so much, one behind the other, a budget lets be done.
func spend(costs []int, budget int) (steps, reds int) {
	for reds+api.MaxCost <= budget {
		reds += costs[steps%len(costs)]
		steps++
	}
	return steps, reds
}

// Rounds of instructions that cost 1, 2, 4 and 8, by all budgets.
func TestSl1Rounds(t *testing.T) {
	for code, costs := range map[string][]int{
		"jump 0":                               {1},
		"recv 0 0":                             {2},
		"recv 1 0; jump 0":                     {2, 1},
		"spawn 0 0; pop; jump 0":               {8, 1, 1},
		"push a; push b; send; out; jump 0":    {1, 1, 4, 2, 1},
		"spawn 0 0; out; recv 3 7; jump 0":     {8, 2, 2, 1},
		"push 0; push 1; timer; out; recv 0 0": {1, 1, 2, 2, 2},
	} {
		m := prog(t, code)
		for budget := api.MaxCost; budget < 200; budget++ {
			wantRun(t, fmt.Sprint(code, " of ", budget), m, begun(t, m, 0), budget, late(), yield(spend(costs, budget)))
		}
	}
}

// The last instruction that the budget lets be done may end the slice in each way; of a budget that is just spent it is not done, and nothing is asked.
func TestSl1EndsAtTheLastInstruction(t *testing.T) {
	n := api.Budget - api.MaxCost
	for _, x := range []struct {
		first, code string
		end         api.Slice
	}{
		{"jump 1", "jump 0", yield(n+1, n+1)},
		{"jump 1", "yield; jump 0", yield(n+1, n+1)},
		{"jump 1", "recv 0 -1", wait(n+1, n+2)},
		{"jump 1", "spawn 0 0; pop; jump 0", fault("badcode", n+1, n+8)},
		{"push 1", "out; jump 0", yield(n+1, n+2)},
		{"push 1", "exit", exit(in(1), n+1, n+1)},
		{"push 1", "ret", exit(normal(), n+1, n+1)},
		{"push 1", "if 0; jump 0", fault("badkind", n+1, n+1)},
	} {
		lines := []string{x.first}
		for k := 1; k < n; k++ {
			lines = append(lines, fmt.Sprint("jump ", k+1))
		}
		m := prog(t, strings.Join(append(lines, x.code), "; "))
		s, l := begun(t, m, 0), saying(api.Answer{})
		wantRun(t, "just spent ahead of "+x.code, m, s, api.Budget-1, l, yield(n, n))
		if _, at, _ := s.Top(); at != n || len(l.asks) > 0 {
			t.Errorf("just spent ahead of %s: at %d, asked %v", x.code, at, l.kinds())
		}
		wantRun(t, "at the last instruction: "+x.code, m, begun(t, m, 0), api.Budget, l, x.end)
		x.end.Steps, x.end.Reds = x.end.Steps-n, x.end.Reds-n
		wantRun(t, "in the next slice: "+x.code, m, s, api.MaxCost, l, x.end)
	}
}

// With a budget of MaxCost each slice does just one instruction, and OpYield ends that as the budget does.
func TestSl1OneByOne(t *testing.T) {
	m := prog(t, "yield; push 1; push 2; send; call 1; ret; func g 1 1; recv 1 0; yield; load 0; ret")
	s, l := begun(t, m, 0), late()
	want := []api.Slice{yield(1, 1), yield(1, 1), yield(1, 1), fault("badkind", 1, 1)}
	for k, x := range want {
		wantRun(t, fmt.Sprint("instruction ", k), m, s, api.MaxCost, l, x)
	}
	s = load(t, view(terms(atom("a"), in(2)), call(0, 3, 0, nulls(2)...)))
	for k, x := range []api.Slice{yield(1, 4), yield(1, 2), yield(1, 2), yield(1, 1), yield(1, 1), yield(1, 1), exit(normal(), 1, 1)} {
		wantRun(t, fmt.Sprint("instruction ", k+3), m, s, api.MaxCost, l, x)
	}
	if !slices.Equal(l.kinds(), []int{api.AskYield, api.AskSend, api.AskRecv, api.AskYield}) {
		t.Error("the world is asked", l.kinds())
	}
}

// What is refused ahead of a slice: which of two errors comes first, and that nothing is changed, and nothing asked.
func TestSl1Refused(t *testing.T) {
	good, bad := prog(t, "self; ret"), api.Module{Name: "m"}
	fell := api.Module{Name: "m", Funcs: []api.Func{{Name: "f", Code: []api.Instr{{Op: api.OpSelf}}}}}
	wild := api.Module{Name: "m", Funcs: []api.Func{{Name: "f", Code: []api.Instr{{Op: api.OpJump, A: 1}}}}}
	low := api.Module{Name: "m", Funcs: []api.Func{{Name: "f", Code: []api.Instr{{Op: api.OpRet}}}}}
	odd := api.Module{Name: "m", Funcs: []api.Func{{Name: "f", Code: []api.Instr{{Op: 47}}}}}
	s := begun(t, good, 0)
	q := *s
	ended := frame.New()
	want(t, "Push", ended.Push(in(5)), api.OK)
	l := late()
	for _, x := range []struct {
		what   string
		m      api.Module
		s      *frame.Stack
		budget int
		world  func(api.Ask) api.Answer
		e      api.Errno
	}{
		{"no world", good, s, 64, nil, api.ErrArg},
		{"no stack", good, nil, 64, l.world(), api.ErrArg},
		{"a stack that was not given", good, &frame.Stack{}, 64, l.world(), api.ErrArg},
		{"a stack copied by hand", good, &q, 64, l.world(), api.ErrArg},
		{"a budget and a module", bad, s, 7, l.world(), api.ErrArg},
		{"a budget and a stack without a frame", good, ended, 7, l.world(), api.ErrArg},
		{"no world and a module", bad, s, 64, nil, api.ErrArg},
		{"no world and a stack without a frame", good, ended, 64, nil, api.ErrArg},
		{"no stack and a module", bad, nil, 64, l.world(), api.ErrArg},
		{"a stack that was not given and a module", bad, &frame.Stack{}, 64, l.world(), api.ErrArg},
		{"a module", bad, s, 64, l.world(), api.ErrModule},
		{"a name", api.Module{Name: "M", Funcs: good.Funcs}, s, 64, l.world(), api.ErrModule},
		{"no operation", odd, s, 64, l.world(), api.ErrCode},
		{"a jump", wild, s, 64, l.world(), api.ErrJump},
		{"a height", low, s, 64, l.world(), api.ErrHeight},
		{"a fall", fell, s, 64, l.world(), api.ErrFall},
		{"a module and a stack without a frame", bad, ended, 64, l.world(), api.ErrModule},
		{"a fall and a stack without a frame", fell, ended, 64, l.world(), api.ErrFall},
		{"a stack without a frame", good, ended, 64, l.world(), api.ErrEnded},
		{"a stack without anything", good, frame.New(), 64, l.world(), api.ErrEnded},
	} {
		got, e := slice.Run(x.m, x.s, x.budget, x.world)
		if e != x.e || !sameSlice(got, api.Slice{}) {
			t.Errorf("%s: %s, %d, not %d", x.what, toldSlice(got), e, x.e)
		}
	}
	holds(t, "behind what is refused", s, view(nil, call(0, 0, 0, nulls(2)...)))
	holds(t, "behind what is refused", ended, view(terms(in(5))))
	if len(l.asks) > 0 {
		t.Error("the world is asked", l.kinds())
	}
	wantRun(t, "behind what is refused", good, s, 64, l, exit(normal(), 2, 2))
}
