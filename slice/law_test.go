package slice_test

import (
	"slices"
	"testing"

	"carousel/api"
	"carousel/code"
	"carousel/frame"
	"carousel/slice"
)

// actor is a drawn one: its module, how it begins, and the world that it is in.
type actor struct {
	m     api.Module
	args  []api.Term
	world func(int, api.Ask) api.Answer
}

// actors draws so many, and does something with each.
func actors(seed draw, n int, wild bool, each func(actor)) {
	d := seed
	for range n {
		m := d.module()
		x := actor{m: m, args: d.terms(m.Funcs[0].Params)}
		d.below(2)
		x.world = d.answer
		if wild {
			x.world = d.wild
		}
		each(x)
	}
}

func (x actor) listener() *listener { return &listener{rule: x.world} }

// longest is how many instructions are looked at.
const longest = 800

func (x actor) trace() ([]deed, *listener) {
	l := x.listener()
	return traceOf(x.m, 0, x.args, longest, l.world()), l
}

// counted asks of a slice what holds of each.
func counted(t *testing.T, x api.Slice, budget int, l *listener) {
	t.Helper()
	if x.Steps < 1 || x.Reds < x.Steps || x.Reds > budget {
		t.Fatalf("of %d: %s", budget, toldSlice(x))
	}
	yielded := len(l.asks) > 0 && l.asks[len(l.asks)-1].Kind == api.AskYield
	if x.End == api.EndYield && !yielded && x.Reds <= budget-api.MaxCost {
		t.Fatalf("of %d it ends too early: %s", budget, toldSlice(x))
	}
}

// asksAs asks that what was asked is what the second way asks first.
func asksAs(t *testing.T, got, all []api.Ask) {
	t.Helper()
	if len(got) > len(all) {
		t.Fatalf("%d asks, not %d", len(got), len(all))
	}
	for k, a := range got {
		if !sameAsk(a, all[k]) {
			t.Fatalf("ask %d: %s, not %s", k, toldAsk(a), toldAsk(all[k]))
		}
	}
}

// Whole programs, drawn by a fixed rule, instruction by instruction (each budget MaxCost lets one be done), beside the second way: where each stands, with what, how the slice goes, what is asked. The height is the one that layer 6 tells, and nothing is found missing.
func TestSl5Instructions(t *testing.T) {
	ops, ends, reasons := map[int]int{}, map[int]int{}, map[string]int{}
	actors(11, 1200, false, func(x actor) {
		var heights [][]int
		for fn := range x.m.Funcs {
			h, e := code.Heights(x.m, fn)
			want(t, "a drawn module", e, api.OK)
			heights = append(heights, h)
		}
		deeds, all := x.trace()
		s, l := begun(t, x.m, 0, x.args...), x.listener()
		for _, d := range deeds {
			v := s.View()
			f := v.Frames[len(v.Frames)-1]
			if f.Func != d.fn || f.At != d.at || !sameTerms(v.Terms[f.Base:], d.terms) || !sameTerms(f.Locals, d.locals) {
				t.Fatalf("it stands at %s, not at %d of %d with %s, %s", toldView(v), d.at, d.fn, told(d.terms...), told(d.locals...))
			}
			if s.Height() != heights[f.Func][f.At] {
				t.Fatalf("the height at %d of %d: %d, not %d", f.At, f.Func, s.Height(), heights[f.Func][f.At])
			}
			got, e := slice.Run(x.m, s, api.MaxCost, l.world())
			y, _ := cut([]deed{d}, api.MaxCost)
			if e != api.OK || !sameSlice(got, y) {
				t.Fatalf("operation %d: %s, %d, not %s", d.op, toldSlice(got), e, toldSlice(y))
			}
			asksAs(t, l.asks, all.asks)
			ops[d.op]++
			ends[d.end]++
			if d.end == api.EndFault {
				reasons[got.Reason.S]++
			}
		}
	})
	for n := api.OpPush; n <= api.OpYield; n++ {
		if ops[n] < 10 {
			t.Errorf("operation %d is done %d times", n, ops[n])
		}
	}
	for _, n := range []int{api.EndYield, api.EndWait, api.EndExit, api.EndFault} {
		if ends[n] < 100 {
			t.Errorf("the end %d comes %d times", n, ends[n])
		}
	}
	for _, s := range []string{"badkind", "badrange", "badzero", "toodeep"} {
		if reasons[s] < 3 {
			t.Errorf("the reason %s comes %d times", s, reasons[s])
		}
	}
	if reasons["badcode"] > 0 {
		t.Errorf("the reason badcode comes %d times", reasons["badcode"])
	}
}

// Whole programs by slices of several budgets, beside the slices that are cut from what the second way does; each is counted as it must be.
func TestSl3Slices(t *testing.T) {
	for _, wild := range []bool{false, true} {
		ends := map[int]int{}
		actors(12, 300, wild, func(x actor) {
			deeds, all := x.trace()
			for _, budgets := range [][]int{{8}, {9}, {10, 8, 13}, {16}, {api.Budget}, {65, 8}, {300}, {api.MaxTicks}} {
				s, l := begun(t, x.m, 0, x.args...), x.listener()
				left := deeds
				for k := 0; len(left) > 0; k++ {
					budget := budgets[k%len(budgets)]
					y, n := cut(left, budget)
					if n == len(left) && left[n-1].end == 0 && len(deeds) == longest {
						break // the second way went no further
					}
					left = left[n:]
					got, e := slice.Run(x.m, s, budget, l.world())
					if e != api.OK || !sameSlice(got, y) {
						t.Fatalf("of %d: %s, %d, not %s", budget, toldSlice(got), e, toldSlice(y))
					}
					counted(t, got, budget, l)
					asksAs(t, l.asks, all.asks)
					ends[got.End]++
				}
				if last := deeds[len(deeds)-1]; last.left != nil {
					holds(t, "behind the first call", s, view(last.left))
				}
			}
		})
		for _, n := range []int{api.EndYield, api.EndWait, api.EndExit, api.EndFault} {
			if ends[n] < 200 {
				t.Errorf("the end %d comes %d times", n, ends[n])
			}
		}
	}
}

// ran is what an actor did in some slices: how much in all, how the last one went, whether that ended by its budget.
type ran struct {
	steps, reds int
	last        api.Slice
	spent       bool
}

// runs gives an actor slices, till one ends otherwise than by its budget.
func runs(t *testing.T, x actor, s *frame.Stack, l *listener, budgets ...int) ran {
	t.Helper()
	var r ran
	for _, budget := range budgets {
		asked := len(l.asks)
		y, e := slice.Run(x.m, s, budget, l.world())
		want(t, "Run", e, api.OK)
		r.steps, r.reds, r.last = r.steps+y.Steps, r.reds+y.Reds, y
		r.spent = y.End == api.EndYield && (len(l.asks) == asked || l.asks[len(l.asks)-1].Kind != api.AskYield)
		if !r.spent {
			break
		}
	}
	return r
}

// Slices one behind the other, beside one with the sum of their budgets: that does the same, and goes on, if the others were only out of reductions.
func TestSl4SumOfBudgets(t *testing.T) {
	split, whole := 0, 0
	actors(13, 600, false, func(x actor) {
		for _, budgets := range [][]int{{8, 8}, {9, 30, 8}, {64, 64}, {100, 64, 8, 8, 8}, {20, 20, 20, 20, 20, 20, 20, 20}} {
			sum := 0
			for _, n := range budgets {
				sum += n
			}
			s, l := begun(t, x.m, 0, x.args...), x.listener()
			u, k := begun(t, x.m, 0, x.args...), x.listener()
			few := runs(t, x, s, l, budgets...)
			one := runs(t, x, u, k, sum)
			asksAs(t, l.asks, k.asks)
			if few.spent {
				if one.reds < few.reds || one.steps < few.steps {
					t.Fatalf("one of %d does less: %s", sum, toldSlice(one.last))
				}
				split++
				continue
			}
			whole++
			if one.steps != few.steps || one.reds != few.reds || one.last.End != few.last.End || !same(one.last.Reason, few.last.Reason) || len(l.asks) != len(k.asks) {
				t.Fatalf("one of %d: %s, not %d steps, %d reductions, %s", sum, toldSlice(one.last), few.steps, few.reds, toldSlice(few.last))
			}
			holds(t, "one behind the other", s, u.View())
		}
	})
	if split < 200 || whole < 200 {
		t.Error("too few of a kind:", split, whole)
	}
}

// Slices of one budget, one behind the other up to one that ends otherwise than by it, do just what a slice does whose budget none of that spends.
func TestSl4GreatBudget(t *testing.T) {
	ends := map[int]int{}
	actors(14, 300, true, func(x actor) {
		for _, budget := range []int{8, 9, 21, api.Budget} {
			s, l := begun(t, x.m, 0, x.args...), x.listener()
			u, k := begun(t, x.m, 0, x.args...), x.listener()
			for range 20 {
				few := runs(t, x, s, l, slices.Repeat([]int{budget}, 100)...)
				if few.spent {
					break // it may go on for ever
				}
				one, e := slice.Run(x.m, u, few.reds+api.MaxCost, k.world())
				if e != api.OK || one.Steps != few.steps || one.Reds != few.reds || one.End != few.last.End || !same(one.Reason, few.last.Reason) {
					t.Fatalf("one of %d: %s, %d, not %d steps, %d reductions, %s", few.reds+api.MaxCost, toldSlice(one), e, few.steps, few.reds, toldSlice(few.last))
				}
				if asksAs(t, l.asks, k.asks); len(l.asks) != len(k.asks) {
					t.Fatal("one great slice asks more")
				}
				holds(t, "one great slice", u, s.View())
				if ends[one.End]++; one.End == api.EndExit || one.End == api.EndFault {
					break
				}
			}
		}
	})
	for _, n := range []int{api.EndYield, api.EndWait, api.EndExit, api.EndFault} {
		if ends[n] < 50 {
			t.Errorf("the end %d comes %d times", n, ends[n])
		}
	}
}

// Actors by themselves, with inboxes, beside the second way.
func TestSl2Programs(t *testing.T) {
	ends, outs, posts, took := map[int]int{}, 0, 0, 0
	var d draw = 15
	actors(16, 1000, false, func(x actor) {
		inbox := d.terms(d.below(12))
		for _, n := range []int{0, 1, 2, 7, 30} {
			y, reds := modelAlone(x.m, 0, x.args, inbox, n)
			wantSolo(t, "a drawn program", x.m, x.args, inbox, n, y, reds)
			if y.End == api.EndFault && y.Term.S == "badcode" {
				t.Fatal("a drawn program finds something missing")
			}
			ends[y.End]++
			outs, posts, took = outs+len(y.Outs), posts+len(y.Posts), took+len(inbox)-y.Left
		}
		if t.Failed() {
			t.FailNow()
		}
	})
	for _, n := range []int{api.EndYield, api.EndWait, api.EndExit, api.EndFault} {
		if ends[n] < 100 {
			t.Errorf("the end %d comes %d times", n, ends[n])
		}
	}
	if outs < 500 || posts < 500 || took < 500 {
		t.Error("too few of them tell, send and receive:", outs, posts, took)
	}
}
