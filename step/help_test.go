package step_test

import (
	"fmt"
	"math"
	"reflect"
	"slices"
	"strings"
	"testing"

	"carousel/api"
	"carousel/frame"
	"carousel/text"
)

const (
	least = -1 << 63
	most  = 1<<63 - 1
)

func null() api.Term { return api.Term{Kind: api.KindNil} }

func yes() api.Term { return api.Term{Kind: api.KindBool, N: 1} }

func no() api.Term { return api.Term{Kind: api.KindBool} }

func in(n int) api.Term { return api.Term{Kind: api.KindInt, N: n} }

func num(re, im float64) api.Term { return api.Term{Kind: api.KindComplex, C: complex(re, im)} }

func atom(s string) api.Term { return api.Term{Kind: api.KindAtom, S: s} }

func pid(n, gen int) api.Term { return api.Term{Kind: api.KindPid, P: api.Pid{N: n, Gen: gen}} }

func ref(n int) api.Term { return api.Term{Kind: api.KindRef, N: n} }

func tuple(l ...api.Term) api.Term { return api.Term{Kind: api.KindTuple, L: l} }

func list(l ...api.Term) api.Term { return api.Term{Kind: api.KindList, L: l} }

// row are the terms 1 to n.
func row(n int) []api.Term {
	var ts []api.Term
	for k := range n {
		ts = append(ts, in(k+1))
	}
	return ts
}

// nulls are n terms nil.
func nulls(n int) []api.Term { return slices.Repeat([]api.Term{null()}, n) }

// deepOf is a term within so many others.
func deepOf(within int, t api.Term) api.Term {
	for k := range within {
		t = api.Term{Kind: api.KindTuple + k%2, L: []api.Term{t}}
	}
	return t
}

// endless is a list that holds itself.
func endless() api.Term {
	l := make([]api.Term, 1)
	l[0] = list(l...)
	return l[0]
}

// kinds are terms, some of each kind.
func kinds() []api.Term {
	return []api.Term{
		null(), yes(), no(), in(0), in(1), in(-1), in(api.MaxTicks), in(api.MaxTicks + 1), in(api.MaxInt), num(0, 0), num(3, -4), atom("a"), atom("full"),
		pid(0, 1), pid(255, 9), ref(1), ref(7), tuple(), tuple(in(1), atom("b")), list(), list(in(1)), list(in(1), tuple(in(2)), in(3)),
	}
}

type wrong struct {
	t api.Term
	e api.Errno
}

// wrongs are terms that may not be, and what layer 3 tells of them.
func wrongs() []wrong {
	return []wrong{
		{api.Term{}, api.ErrTerm}, {api.Term{Kind: 10}, api.ErrTerm}, {in(api.MaxInt + 1), api.ErrTerm}, {api.Term{Kind: api.KindBool, N: 2}, api.ErrTerm}, {num(0.5, 0), api.ErrTerm}, {num(0, math.Copysign(0, -1)), api.ErrTerm},
		{atom("nil"), api.ErrTerm}, {atom(""), api.ErrTerm}, {pid(256, 1), api.ErrTerm}, {ref(0), api.ErrTerm}, {tuple(in(1), api.Term{}), api.ErrTerm}, {list(nulls(1024)...), api.ErrParts}, {deepOf(64, in(1)), api.ErrParts}, {endless(), api.ErrParts},
	}
}

func whatever() api.Pattern { return api.Pattern{Kind: api.PatAny} }

func local(n int) api.Pattern { return api.Pattern{Kind: api.PatVar, N: n} }

func is(t api.Term) api.Pattern { return api.Pattern{Kind: api.PatTerm, Term: t} }

func of(kind int) api.Pattern { return api.Pattern{Kind: api.PatKind, N: kind} }

func tup(l ...api.Pattern) api.Pattern { return api.Pattern{Kind: api.PatTuple, L: l} }

func arm(p api.Pattern, to int) api.Arm { return api.Arm{Pattern: p, To: to} }

func op(n int) api.Instr { return api.Instr{Op: n} }

func opA(n, a int) api.Instr { return api.Instr{Op: n, A: a} }

func push(t api.Term) api.Instr { return api.Instr{Op: api.OpPush, Term: t} }

func ret() api.Instr { return op(api.OpRet) }

func match(a int, l ...api.Arm) api.Instr { return api.Instr{Op: api.OpMatch, A: a, Arms: l} }

func recv(a, b int, l ...api.Arm) api.Instr { return api.Instr{Op: api.OpRecv, A: a, B: b, Arms: l} }

func spawn(a, b int) api.Instr { return api.Instr{Op: api.OpSpawn, A: a, B: b} }

func fun(name string, params, locals int, l ...api.Instr) api.Func {
	return api.Func{Name: name, Params: params, Locals: locals, Code: l}
}

func mod(l ...api.Func) api.Module { return api.Module{Name: "m", Funcs: l} }

func ask(kind int) api.Ask { return api.Ask{Kind: kind} }

func none() api.Ask { return ask(api.AskNone) }

// same tells whether two terms are the same in all fields, noughts' signs too; nil is the empty list.
func same(a, b api.Term) bool {
	bit := math.Float64bits
	return a.Kind == b.Kind && a.N == b.N && a.S == b.S && a.P == b.P && bit(real(a.C)) == bit(real(b.C)) && bit(imag(a.C)) == bit(imag(b.C)) && slices.EqualFunc(a.L, b.L, same)
}

func sameTerms(a, b []api.Term) bool { return slices.EqualFunc(a, b, same) }

func sameFrame(a, b api.Frame) bool {
	return a.Func == b.Func && a.At == b.At && a.Base == b.Base && sameTerms(a.Locals, b.Locals)
}

func sameView(a, b api.View) bool {
	return slices.EqualFunc(a.Frames, b.Frames, sameFrame) && sameTerms(a.Terms, b.Terms)
}

func sameAsk(a, b api.Ask) bool {
	arms := len(a.Arms) == len(b.Arms) && (len(a.Arms) == 0 || reflect.DeepEqual(a.Arms, b.Arms))
	return a.Kind == b.Kind && same(a.To, b.To) && same(a.Term, b.Term) && arms && a.Wait == b.Wait && a.Func == b.Func && a.Class == b.Class && sameTerms(a.Args, b.Args)
}

// call is a frame.
func call(fn, at, base int, locals ...api.Term) api.Frame {
	return api.Frame{Func: fn, At: at, Base: base, Locals: locals}
}

func view(terms []api.Term, frames ...api.Frame) api.View {
	return api.View{Frames: frames, Terms: terms}
}

// told are terms of a failure.
func told(l []api.Term) string {
	var s []string
	for _, t := range l {
		x, e := text.Print(t)
		if e != api.OK {
			x = fmt.Sprintf("%d?", e)
		}
		s = append(s, x[:min(len(x), 40)])
		if len(s) == 12 {
			return "(" + strings.Join(s, " ") + " ..)"
		}
	}
	return "(" + strings.Join(s, " ") + ")"
}

func toldView(v api.View) string {
	s := told(v.Terms)
	for k, f := range v.Frames {
		if k >= 2 && k < len(v.Frames)-2 {
			continue
		}
		s += fmt.Sprintf(" %d: %d at %d above %d %s", k, f.Func, f.At, f.Base, told(f.Locals))
	}
	return fmt.Sprintf("%d: %s", len(v.Terms), s)
}

func toldAsk(a api.Ask) string {
	return fmt.Sprintf("ask %d (%d %d %d, %d arms) %s %s", a.Kind, a.Wait, a.Func, a.Class, len(a.Arms), told([]api.Term{a.To, a.Term}), told(a.Args))
}

// load is the stack of a view.
func load(t *testing.T, v api.View) *frame.Stack {
	t.Helper()
	s, e := frame.Load(v)
	if e != api.OK || s == nil {
		t.Fatalf("Load(%v): %d", v, e)
	}
	return s
}

// want asks for an error.
func want(t *testing.T, what string, got, want api.Errno) {
	t.Helper()
	if got != want {
		t.Errorf("%s: %d, not %d", what, got, want)
	}
}

// holds asks of a stack all that can be told of it.
func holds(t *testing.T, what string, s *frame.Stack, v api.View) {
	t.Helper()
	if u := s.View(); !sameView(u, v) {
		t.Errorf("%s: the stack is %s, not %s", what, toldView(u), toldView(v))
	}
}

// strangers are stacks that nobody gave.
func strangers(t *testing.T) []*frame.Stack {
	s := load(t, view(row(1), call(0, 0, 0)))
	q := *s
	return []*frame.Stack{nil, {}, &q}
}

// scribble writes over a list, and over the room behind its end.
func scribble[T any](l []T, x T) {
	l = l[:cap(l)]
	for i := range l {
		l[i] = x
	}
}
