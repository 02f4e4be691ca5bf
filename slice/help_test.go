package slice_test

import (
	"fmt"
	"math"
	"reflect"
	"slices"
	"strings"
	"testing"

	"carousel/api"
	"carousel/asm"
	"carousel/frame"
	"carousel/slice"
	"carousel/step"
	"carousel/text"
)

const (
	least = -1 << 63
	most  = 1<<63 - 1
)

func null() api.Term { return api.Term{Kind: api.KindNil} }

func yes() api.Term { return api.Term{Kind: api.KindBool, N: 1} }

func no() api.Term { return api.Term{Kind: api.KindBool} }

func in(n int) api.Term { return api.Term{Kind: api.KindInt, N: n} }

func atom(s string) api.Term { return api.Term{Kind: api.KindAtom, S: s} }

func pid(n, gen int) api.Term { return api.Term{Kind: api.KindPid, P: api.Pid{N: n, Gen: gen}} }

func ref(n int) api.Term { return api.Term{Kind: api.KindRef, N: n} }

func tuple(l ...api.Term) api.Term { return api.Term{Kind: api.KindTuple, L: l} }

func list(l ...api.Term) api.Term { return api.Term{Kind: api.KindList, L: l} }

func normal() api.Term { return atom("normal") }

func terms(l ...api.Term) []api.Term { return l }

// row are the ints 0 to n - 1.
func row(n int) []api.Term {
	var ts []api.Term
	for k := range n {
		ts = append(ts, in(k))
	}
	return ts
}

// nulls are n terms nil.
func nulls(n int) []api.Term { return slices.Repeat(terms(null()), n) }

// big is a term of one part too many.
func big() api.Term { return list(nulls(api.MaxParts)...) }

// endless is a list that holds itself.
func endless() api.Term {
	l := make([]api.Term, 1)
	l[0] = list(l...)
	return l[0]
}

type wrong struct {
	t api.Term
	e api.Errno
}

// wrongs are terms that may not be, and what layer 3 tells of them.
func wrongs() []wrong {
	return []wrong{
		{api.Term{}, api.ErrTerm}, {in(api.MaxInt + 1), api.ErrTerm}, {atom("nil"), api.ErrTerm}, {pid(256, 1), api.ErrTerm}, {ref(0), api.ErrTerm},
		{tuple(in(1), api.Term{}), api.ErrTerm}, {api.Term{Kind: api.KindComplex, C: complex(0.5, math.Inf(1))}, api.ErrTerm}, {big(), api.ErrParts}, {endless(), api.ErrParts},
	}
}

// prog is the module of a text whose lines stand with "; " between: a function f with two locals, and those that begin behind it.
func prog(t *testing.T, s string) api.Module {
	t.Helper()
	return made(t, "func f 0 2; "+s)
}

// made is likewise, but for its first function's line.
func made(t *testing.T, s string) api.Module {
	t.Helper()
	m, e, at := asm.Parse("module m\n" + strings.ReplaceAll(s, "; ", "\n"))
	if e != api.OK {
		t.Fatalf("%s: %d at %d", s, e, at)
	}
	return m
}

func begun(t *testing.T, m api.Module, fn int, args ...api.Term) *frame.Stack {
	t.Helper()
	s, e := step.Begin(m, fn, args)
	want(t, "Begin", e, api.OK)
	return s
}

// load is the stack of a view.
func load(t *testing.T, v api.View) *frame.Stack {
	t.Helper()
	s, e := frame.Load(v)
	want(t, "Load", e, api.OK)
	return s
}

// call is a frame.
func call(fn, at, base int, locals ...api.Term) api.Frame {
	return api.Frame{Func: fn, At: at, Base: base, Locals: locals}
}

func view(terms []api.Term, frames ...api.Frame) api.View {
	return api.View{Frames: frames, Terms: terms}
}

// listener is a world that keeps what it is asked, and answers by a rule.
type listener struct {
	asks []api.Ask
	rule func(k int, a api.Ask) api.Answer
}

func (l *listener) world() func(api.Ask) api.Answer {
	return func(a api.Ask) api.Answer {
		l.asks = append(l.asks, copied(a))
		return l.rule(len(l.asks)-1, a)
	}
}

func (l *listener) kinds() []int {
	var kinds []int
	for _, a := range l.asks {
		kinds = append(kinds, a.Kind)
	}
	return kinds
}

// copied is an ask whose lists are its own.
func copied(a api.Ask) api.Ask {
	a.Args, a.Arms = slices.Clone(a.Args), slices.Clone(a.Arms)
	return a
}

// saying is a world that answers alike, whatever it is asked.
func saying(x api.Answer) *listener {
	return &listener{rule: func(int, api.Ask) api.Answer { return x }}
}

// late is a world that answers who asks for a message that the time is up, and all others by the atom ok.
func late() *listener { return saying(api.Answer{Is: true, Term: atom("ok"), Arm: -1}) }

// yield, wait, exit and fault are how a slice went.
func yield(steps, reds int) api.Slice {
	return api.Slice{End: api.EndYield, Steps: steps, Reds: reds}
}

func wait(steps, reds int) api.Slice {
	return api.Slice{End: api.EndWait, Steps: steps, Reds: reds}
}

func exit(reason api.Term, steps, reds int) api.Slice {
	return api.Slice{End: api.EndExit, Reason: reason, Steps: steps, Reds: reds}
}

func fault(reason string, steps, reds int) api.Slice {
	return api.Slice{End: api.EndFault, Reason: atom(reason), Steps: steps, Reds: reds}
}

// wantRun asks how a slice goes.
func wantRun(t *testing.T, what string, m api.Module, s *frame.Stack, budget int, l *listener, x api.Slice) {
	t.Helper()
	got, e := slice.Run(m, s, budget, l.world())
	want(t, what, e, api.OK)
	if !sameSlice(got, x) {
		t.Errorf("%s: the slice is %s, not %s", what, toldSlice(got), toldSlice(x))
	}
}

// wantSolo asks what comes of an actor by itself.
func wantSolo(t *testing.T, what string, m api.Module, args, inbox []api.Term, slices int, x api.Meaning, reds int) {
	t.Helper()
	got, e := slice.Solo(m, 0, args, inbox, slices)
	want(t, what, e, api.OK)
	if !sameMeaning(got, x) {
		t.Errorf("%s: Solo is %s, not %s", what, toldMeaning(got), toldMeaning(x))
	}
	n, e := slice.Reds(m, 0, args, inbox, slices)
	want(t, what, e, api.OK)
	if n != reds {
		t.Errorf("%s: %d reductions, not %d", what, n, reds)
	}
}

// want asks for an error.
func want(t *testing.T, what string, got, want api.Errno) {
	t.Helper()
	if got != want {
		t.Fatalf("%s: %d, not %d", what, got, want)
	}
}

// holds asks of a stack all that can be told of it.
func holds(t *testing.T, what string, s *frame.Stack, v api.View) {
	t.Helper()
	if u := s.View(); !sameView(u, v) {
		t.Errorf("%s: the stack is %s, not %s", what, toldView(u), toldView(v))
	}
}

// same tells whether two terms are the same in all fields; nil is the empty list.
func same(a, b api.Term) bool {
	return a.Kind == b.Kind && a.N == b.N && a.S == b.S && a.P == b.P && a.C == b.C && slices.EqualFunc(a.L, b.L, same)
}

func sameTerms(a, b []api.Term) bool { return slices.EqualFunc(a, b, same) }

func sameFrame(a, b api.Frame) bool {
	return a.Func == b.Func && a.At == b.At && a.Base == b.Base && sameTerms(a.Locals, b.Locals)
}

func sameView(a, b api.View) bool {
	return slices.EqualFunc(a.Frames, b.Frames, sameFrame) && sameTerms(a.Terms, b.Terms)
}

func sameSlice(a, b api.Slice) bool {
	return a.End == b.End && same(a.Reason, b.Reason) && a.Steps == b.Steps && a.Reds == b.Reds
}

func sameMeaning(a, b api.Meaning) bool {
	return a.End == b.End && same(a.Term, b.Term) && sameTerms(a.Outs, b.Outs) && slices.EqualFunc(a.Posts, b.Posts, samePost) && a.Left == b.Left
}

func samePost(a, b api.Post) bool { return a.To == b.To && same(a.Term, b.Term) }

func sameAsk(a, b api.Ask) bool {
	arms := len(a.Arms) == len(b.Arms) && (len(a.Arms) == 0 || reflect.DeepEqual(a.Arms, b.Arms))
	return a.Kind == b.Kind && same(a.To, b.To) && same(a.Term, b.Term) && arms && a.Wait == b.Wait && a.Func == b.Func && a.Class == b.Class && sameTerms(a.Args, b.Args)
}

// told are terms of a failure.
func told(l ...api.Term) string {
	var s []string
	for _, t := range l {
		x, e := text.Print(t)
		if e != api.OK {
			x = fmt.Sprintf("%d?", e)
		}
		s = append(s, x[:min(len(x), 40)])
		if len(s) == 12 {
			return "(" + strings.Join(s, " ") + " ..)"
		}
	}
	return "(" + strings.Join(s, " ") + ")"
}

func toldSlice(x api.Slice) string {
	return fmt.Sprintf("end %d %s, %d steps, %d reductions", x.End, told(x.Reason), x.Steps, x.Reds)
}

func toldMeaning(x api.Meaning) string {
	s := fmt.Sprintf("end %d %s, outs %d %s, %d left, posts %d", x.End, told(x.Term), len(x.Outs), told(x.Outs...), x.Left, len(x.Posts))
	for _, p := range x.Posts[:min(len(x.Posts), 5)] {
		s += fmt.Sprintf(" <%d.%d> %s", p.To.N, p.To.Gen, told(p.Term))
	}
	return s
}

func toldView(v api.View) string {
	s := told(v.Terms...)
	for k, f := range v.Frames {
		if k < 2 || k >= len(v.Frames)-2 {
			s += fmt.Sprintf(" %d: %d at %d above %d %s", k, f.Func, f.At, f.Base, told(f.Locals...))
		}
	}
	return fmt.Sprintf("%d: %s", len(v.Terms), s)
}

func toldAsk(a api.Ask) string {
	return fmt.Sprintf("ask %d (%d %d %d, %d arms) %s %s", a.Kind, a.Wait, a.Func, a.Class, len(a.Arms), told(a.To, a.Term), told(a.Args...))
}

// scribble writes over a list, and over the room behind its end.
func scribble[T any](l []T, x T) {
	l = l[:cap(l)]
	for i := range l {
		l[i] = x
	}
}
