package sign_test

import (
	"slices"
	"testing"

	"carousel/api"
	"carousel/sign"
)

// roomy is a list with room behind its end, with something there.
func roomy[T any](l []T, behind ...T) []T { return slices.Concat(l, behind)[:len(l)] }

// spoil writes over all that stands in a list, and in the room behind its end, and appends to it.
func spoil[T any](l []T, by T) {
	for _, l := range [][]T{l, append(l, by)} {
		l = l[:cap(l)]
		for i := range l {
			l[i] = by
		}
	}
}

// worlds are some of each kind: with answers of all kinds, and such as are refused.
func worlds() []world {
	var l []world
	shapes := []struct{ lives, ties, first string }{
		{"0 1 2!", "0-1 1-2 5:2>1", "0"}, {"0! 1 2", "0-1 1-2 5:2>1 6:2>0", "0"}, {"0 1 2 3! 4", "0-1 0-2 0-3 1-3 2-3 3-4 1:4>0 2:4>1 3:3>3 7:2>0 9:3>1", "1"}, {"3", "", "3"}, {"0 2 4!", "0-1 0-2 1-2 1-4 2-3 2-4 3-4 5:1>0 6:3>2 7:4>0 8:3>4", "2"},
		{"1 0", "", "0"}, {"0 1", "1-0", "0"}, {"0 1", "0-1", "2"}, {"", "", "0"},
	}
	for _, x := range shapes {
		for _, why := range []api.Term{atom("oops"), atom("normal"), tuple(atom("a"), list(in(1), in(2)), in(3)), wide(1021), wide(1024), {}, wide(1025)} {
			l = append(l, both(world{folk(x.lives), tied(x.ties), who(x.first), why, false})...)
		}
	}
	w := world{crowd(200, 0), pairs(crowd(40, 0)), pid(7, 1), list(atom("a"), atom("b")), true}
	for i := range w.lives {
		w.lives[i].Trap = i%3 == 0
	}
	return append(l, w)
}

// answer is what a cascade told.
type answer struct {
	deaths []api.Death
	posts  []api.Post
	e      api.Errno
}

func (w world) answer() answer {
	d, p, e := w.cascade()
	return answer{d, p, e}
}

func (a answer) is(b answer) bool {
	return a.e == b.e && sameAnswer(a.deaths, a.posts, b.deaths, b.posts)
}

// Nothing that is handed in is changed: neither lists, nor the room behind them, nor the reason and its own room.
func TestR3HandedIn(t *testing.T) {
	for _, w := range worlds() {
		w.lives = roomy(w.lives, api.Life{Pid: pid(-1, 0), Trap: true}, api.Life{Pid: pid(300, 3)}, api.Life{Pid: pid(3, 3)})
		w.ties = roomy(w.ties, api.Tie{Ref: -1}, api.Tie{A: pid(0, 1), B: pid(1, 1)}, api.Tie{Ref: 77, A: pid(2, 1), B: pid(0, 1)})
		w.reason.L = roomy(w.reason.L, in(91), in(92), in(93), in(94), in(95))
		lives, ties, terms := slices.Clone(w.lives[:cap(w.lives)]), slices.Clone(w.ties[:cap(w.ties)]), slices.Clone(w.reason.L[:cap(w.reason.L)])
		w.answer()
		sign.Falls(true, w.reason, w.kill)
		sign.Falls(false, w.reason, w.kill)
		sign.Exit(w.first, w.reason)
		sign.Down(3, w.first, w.reason)
		if !slices.Equal(w.lives[:cap(w.lives)], lives) || !slices.Equal(w.ties[:cap(w.ties)], ties) || !slices.EqualFunc(w.reason.L[:cap(w.reason.L)], terms, same) {
			t.Fatal("what was handed in is changed:", w)
		}
	}
}

// What lies behind a list's end is not read: neither as a wrong one nor as one more.
func TestR3BehindTheEnd(t *testing.T) {
	for _, w := range worlds() {
		want := w.answer()
		for _, life := range []api.Life{{}, {Pid: pid(255, 9)}, {Pid: pid(0, 1), Trap: true}, {Pid: w.first}} {
			for _, tie := range []api.Tie{{}, {Ref: -1}, {Ref: 9999, A: pid(2, 1), B: w.first}, {A: pid(0, 1), B: pid(1, 1)}, {Ref: 5, A: pid(9, 9), B: pid(9, 9)}} {
				x := w
				x.lives, x.ties, x.reason.L = roomy(w.lives, life), roomy(w.ties, tie), roomy(w.reason.L, api.Term{})
				if !x.answer().is(want) {
					t.Fatal("what lies behind an end counts:", w)
				}
			}
		}
	}
}

// What was handed in may be written over: an answer does not change. (The lists within a reason are never written over, and may be shared.)
func TestR3AnswersKeepNothing(t *testing.T) {
	for _, w := range worlds() {
		want := w.answer()
		x := w
		x.lives, x.ties = roomy(w.lives, api.Life{}), roomy(w.ties, api.Tie{})
		got := x.answer()
		spoil(x.lives, api.Life{Pid: pid(77, 7), Trap: true})
		spoil(x.ties, api.Tie{Ref: 7, A: pid(7, 7), B: pid(77, 7)})
		if !got.is(want) {
			t.Fatal("an answer changes with what was handed in:", w)
		}
	}
}

// An answer may be written over, in its spare room, too: what was handed in does not change, nor another answer, nor a later one.
func TestR3AnswersAreTheirOwn(t *testing.T) {
	for _, w := range worlds() {
		want := w.answer()
		again := w.answer()
		lives, ties := slices.Clone(w.lives), slices.Clone(w.ties)
		got := w.answer()
		spoil(got.deaths, api.Death{Pid: pid(66, 6), Reason: in(6)})
		if !sameAnswer(nil, got.posts, nil, want.posts) {
			t.Fatal("the posts change with the deaths:", w)
		}
		spoil(got.posts, api.Post{To: pid(66, 6), Term: in(6)})
		for _, x := range got.deaths[:cap(got.deaths)] {
			if x.Pid != pid(66, 6) {
				t.Fatal("the deaths change with the posts:", w)
			}
		}
		if !slices.Equal(w.lives, lives) || !slices.Equal(w.ties, ties) || !again.is(want) || !w.answer().is(want) {
			t.Fatal("something changes with an answer:", w)
		}
	}
}

// No two messages have a list together, and none has one with the reason.
func TestR3EachMessageIsNew(t *testing.T) {
	for _, w := range worlds() {
		want, got := w.answer(), w.answer()
		before := slices.Clone(w.reason.L)
		for i := range got.posts {
			spoil(got.posts[i].Term.L, in(i))
			for k := range got.posts[i+1:] {
				if !samePost(got.posts[i+1+k], want.posts[i+1+k]) {
					t.Fatalf("the message %d changes with the message %d: %s", i+1+k, i, w)
				}
			}
			for _, x := range got.posts[i].Term.L {
				if !same(x, in(i)) {
					t.Fatalf("the message %d changes: %s", i, w)
				}
			}
		}
		if !slices.EqualFunc(got.deaths, want.deaths, sameDeath) || !slices.EqualFunc(w.reason.L, before, same) {
			t.Fatal("a reason changes with a message:", w)
		}
	}
}

func TestR3ExitAndDownAreNew(t *testing.T) {
	for _, why := range append(rights(), tuple(in(1)), tuple(in(1), in(2)), tuple(in(1), in(2), in(3))) {
		given := why
		given.L = roomy(why.L, in(8), in(9), in(10), in(11))
		exit, down := modelExit(pid(1, 1), why), modelDown(5, pid(1, 1), why)
		a, b := sign.Exit(pid(1, 1), given), sign.Exit(pid(1, 1), given)
		c, d := sign.Down(5, pid(1, 1), given), sign.Down(5, pid(1, 1), given)
		spoil(a.L, in(66))
		spoil(c.L, in(66))
		if !same(b, exit) || !same(d, down) || !same(given, why) || !same(given.L[:cap(given.L)][len(given.L)], in(8)) {
			t.Error("a message shares a list:", show(why))
		}
	}
}

// Whatever a call is asked with, it ends, and none panics.
func TestR1WildArguments(t *testing.T) {
	wild := []int{least, least + 1, api.MinInt, -1 << 32, -256, -1, 0, 1, 2, 255, 256, 1 << 32, api.MaxInt, api.MaxInt + 1, most - 1, most}
	reasons := []api.Term{atom("oops"), atom("normal"), {}, {Kind: least, N: most, S: "\xff", L: endless(api.KindList).L}, endless(api.KindTuple)}
	for _, n := range wild {
		for _, gen := range wild {
			p := pid(n, gen)
			for _, why := range reasons {
				for _, w := range both(world{folk("0 1 2!"), tied("0-1 5:0>1"), p, why, false}) {
					w.cascade()
					w.lives = append(w.lives, api.Life{Pid: p})
					w.cascade()
					w.first = pid(0, 1)
					w.cascade()
					w.lives = []api.Life{{Pid: p, Trap: true}, {Pid: pid(0, 1)}}
					w.cascade()
					w.lives, w.ties = folk("0 1"), []api.Tie{{Ref: n, A: p, B: pid(0, 1)}, {Ref: gen, A: pid(0, 1), B: p}, {Ref: n, A: p, B: p}}
					w.cascade()
				}
				if m := sign.Exit(p, why); m.Kind != api.KindTuple || len(m.L) != 3 || m.L[1].P != p {
					t.Fatal("Exit:", p, m.Kind)
				}
				if m := sign.Down(n, p, why); m.Kind != api.KindTuple || len(m.L) != 4 || m.L[1].N != n || m.L[2].P != p {
					t.Fatal("Down:", n, p, m.Kind)
				}
			}
		}
	}
	none := world{reason: atom("oops"), kill: true}
	wantRefused(t, "nothing at all", none, api.ErrNone)
	wantRefused(t, "nothing at all", world{}, api.ErrNone)
	none.lives, none.ties = make([]api.Life, 1<<16), make([]api.Tie, 1<<18)
	wantRefused(t, "zeros", none, api.ErrArg)
	none.lives = nil
	wantRefused(t, "zeros", none, api.ErrArg)
	none.lives = slices.Repeat(folk("5"), 1<<16)
	wantRefused(t, "the same again and again", none, api.ErrArg)
}

// What a call answers hangs on what it is asked with alone: not on what was asked ahead of it.
func TestR4TheSameAgain(t *testing.T) {
	all := worlds()
	var first []answer
	for _, w := range all {
		first = append(first, w.answer())
	}
	var d draw = 44
	for range 3000 {
		i := d.below(len(all))
		if !all[i].answer().is(first[i]) {
			t.Fatal("another answer than ahead:", all[i])
		}
	}
}

// nil and the empty list are the same, in a reason and as lives and ties.
func TestR3NilIsTheEmptyList(t *testing.T) {
	for _, name := range []string{"oops", "normal"} {
		for _, w := range both(world{folk("0 1!"), tied("0-1 5:1>0"), pid(0, 1), atom(name), false}) {
			want := w.answer()
			w.reason.L = []api.Term{}
			if !w.answer().is(want) {
				t.Error("another answer by the empty list:", w)
			}
			w.ties, w.reason = nil, atom(name)
			want = w.answer()
			if w.ties = []api.Tie{}; !w.answer().is(want) {
				t.Error("another answer without ties:", w)
			}
		}
	}
	w := world{first: pid(0, 1), reason: atom("oops")}
	wantRefused(t, "nil lives", w, api.ErrNone)
	w.lives = []api.Life{}
	wantRefused(t, "no lives", w, api.ErrNone)
}
