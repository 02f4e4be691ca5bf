package slice_test

import (
	"reflect"
	"slices"
	"testing"

	"carousel/api"
	"carousel/frame"
	"carousel/slice"
)

func scribbled() api.Term { return atom("scribbled") }

// A world may write over what it is asked, at once and later: the slice goes on by what was asked, the module stays as it is, and so do other asks.
func TestR3Asks(t *testing.T) {
	const code = "jump 1; jump 2; recv 8 3 ? {a, $0} -> 3 ? b -> 8; load 0; push 5; push 6; spawn 1 0; jump 9; jump 8; tuple 2; exit; func g 2 2; push 1; ret"
	m, other := prog(t, code), prog(t, code)
	var kept []api.Ask
	l := &listener{rule: func(k int, a api.Ask) api.Answer {
		x := answersInTurn(k, a)
		for _, old := range append(kept, a) {
			scribble(old.Args, scribbled())
			scribble(old.Arms, api.Arm{To: 77, Pattern: api.Pattern{Kind: 99}})
		}
		kept = append(kept, a)
		return x
	}}
	for range 3 {
		s := begun(t, m, 0)
		wantRun(t, "a world that writes over what it is asked", m, s, plenty, l, exit(tuple(atom("got"), in(len(l.asks)+1)), 10, 19))
		for k := range kept {
			want := api.Ask{Kind: api.AskRecv, Wait: 3, Arms: other.Funcs[0].Code[2].Arms}
			if k%2 == 1 {
				want = api.Ask{Kind: api.AskSpawn, Args: row(7)[5:], Func: 1}
			}
			if !sameAsk(l.asks[k], want) {
				t.Errorf("the ask %d is %s, not %s", k, toldAsk(l.asks[k]), toldAsk(want))
			}
		}
	}
	if !reflect.DeepEqual(m, other) {
		t.Error("the module is changed:", m)
	}
}

// What the world answered may be written over later.
func TestR3Answers(t *testing.T) {
	m := prog(t, "recv 1 3 ? {$0, $1} -> 1; load 0; load 1; tuple 2; ret")
	binds := []api.Bind{{Local: 0, Term: in(1)}, {Local: 1, Term: list(in(2))}, {Local: 9, Term: api.Term{}}}
	s := begun(t, m, 0)
	wantRun(t, "recv", m, s, api.MaxCost, saying(api.Answer{Is: true, Binds: binds[:2]}), yield(1, 2))
	if !same(binds[0].Term, in(1)) || binds[2].Local != 9 {
		t.Error("the binds are changed:", binds)
	}
	scribble(binds, api.Bind{Term: scribbled()})
	holds(t, "behind recv", s, view(nil, call(0, 1, 0, in(1), list(in(2)))))
}

// What is handed to Solo is not changed, nor read beyond its end, and what it answers shares nothing with it, nor with another answer.
func TestR3Solo(t *testing.T) {
	const code = "func f 2 3; recv 6 0 ? {$2, _} -> 1; load 2; out; load 0; pop; jump 0; push <9.1>; load 1; send; out; push <8.2>; push hi; send; load 0; cons; ret"
	m, other := made(t, code), made(t, code)
	args := append(terms(list(in(1)), atom("b")), wrongs()[0].t, big())
	inbox := append(terms(atom("x"), tuple(in(3), in(4)), in(5), tuple(in(6), in(7)), atom("y")), tuple(in(8), in(9)), wrongs()[0].t)
	lists := [][]api.Term{slices.Clone(args), slices.Clone(inbox)}
	want := api.Meaning{End: api.EndExit, Term: list(atom("hi"), in(1)), Outs: terms(in(3), in(6), atom("b")), Posts: []api.Post{post(9, 1, atom("b")), post(8, 2, atom("hi"))}, Left: 3}
	var all []api.Meaning
	for range 3 {
		wantSolo(t, "what is handed in", m, args[:2], inbox[:5], 10, want, 2*8+2+8+9)
		x, _ := slice.Solo(m, 0, args[:2], inbox[:5], 10)
		all = append(all, x)
	}
	if !sameTerms(args, lists[0]) || !sameTerms(inbox, lists[1]) || !reflect.DeepEqual(m, other) {
		t.Error("what was handed in is changed:", told(args...), told(inbox...))
	}
	scribble(args, scribbled())
	scribble(inbox, scribbled())
	scribble(all[0].Outs, scribbled())
	scribble(all[1].Posts, post(1, 1, scribbled()))
	if !sameMeaning(all[2], want) || !sameTerms(all[1].Outs, want.Outs) || !slices.EqualFunc(all[0].Posts, want.Posts, samePost) {
		t.Error("what is answered is shared:", toldMeaning(all[0]), toldMeaning(all[1]), toldMeaning(all[2]))
	}
	wantSolo(t, "what is handed in anew", m, lists[0][:2], lists[1][:5], 10, want, 2*8+2+8+9)
}

// The module's lists are not read beyond their ends.
func TestR3BehindAListsEnd(t *testing.T) {
	m := prog(t, "yield; push 1; ret; func g 0 0; jump 0")
	cut := m
	cut.Funcs = m.Funcs[:1]
	if _, e := slice.Solo(cut, 1, nil, nil, 1); e != api.ErrNone {
		t.Error("a function behind the end:", e)
	}
	s := load(t, view(nil, call(1, 0, 0)))
	wantRun(t, "a function behind the end", cut, s, plenty, late(), fault("badcode", 1, 1))
	cut.Funcs = slices.Clone(m.Funcs)
	cut.Funcs[0].Code = m.Funcs[0].Code[:2]
	if _, e := slice.Run(cut, begun(t, m, 0), plenty, late().world()); e != api.ErrFall {
		t.Error("an instruction behind the end:", e)
	}
}

// Slices of several actors by turns: each goes on by itself; a copy knows nothing of the other one.
func TestR4ActorsByThemselves(t *testing.T) {
	m := made(t, "func f 1 1; load 0; push 1; add; store 0; load 0; out; jump 0")
	var ss []*frame.Stack
	for n := range 5 {
		ss = append(ss, begun(t, m, 0, in(100*n)))
	}
	for round := range 20 {
		for n, s := range ss {
			l := late()
			wantRun(t, "a round", m, s, 15, l, yield(7, 8))
			if len(l.asks) != 1 || !same(l.asks[0].Term, in(100*n+round+1)) {
				t.Errorf("actor %d in round %d: %d asks", n, round, len(l.asks))
			}
			other := s.Copy()
			wantRun(t, "a copy", m, other, api.Budget, late(), yield(50, 57))
			holds(t, "the actor behind its copy", s, view(nil, call(0, 0, 0, in(100*n+round+1))))
		}
	}
}
