package sign_test

import (
	"testing"

	"carousel/api"
	"carousel/sign"
	"carousel/term"
)

// wantExit asks Exit for what stands behind the pid.
func wantExit(t *testing.T, what string, p api.Pid, reason, inside api.Term) {
	t.Helper()
	if x := sign.Exit(p, reason); !same(x, tuple(atom("exit"), pidOf(p), inside)) {
		t.Errorf("%s: Exit(%v, %s): %s", what, p, show(reason), show(x))
	}
}

// wantDown asks Down for what stands behind the pid.
func wantDown(t *testing.T, what string, ref int, p api.Pid, reason, inside api.Term) {
	t.Helper()
	if x := sign.Down(ref, p, reason); !same(x, tuple(atom("down"), refOf(ref), pidOf(p), inside)) {
		t.Errorf("%s: Down(%d, %v, %s): %s", what, ref, p, show(reason), show(x))
	}
}

var toobig = atom("toobig")

// The messages of reasons of each kind, of pids and refs at their edges: they may be.
func TestP161Messages(t *testing.T) {
	for _, x := range rights()[:25] {
		for _, p := range []api.Pid{pid(0, 1), pid(1, 1), pid(7, 3), pid(255, 1), pid(0, api.MaxInt), pid(255, api.MaxInt)} {
			wantExit(t, "may be", p, x, x)
			if e := term.Check(sign.Exit(p, x)); e != api.OK {
				t.Errorf("Exit(%v, %s): %d", p, show(x), e)
			}
			for _, ref := range []int{1, 2, 1 << 32, api.MaxInt - 1, api.MaxInt} {
				wantDown(t, "may be", ref, p, x, x)
				if e := term.Check(sign.Down(ref, p, x)); e != api.OK {
					t.Errorf("Down(%d, %v, %s): %d", ref, p, show(x), e)
				}
			}
		}
	}
	wantExit(t, "the empty list", pid(1, 1), api.Term{Kind: api.KindAtom, S: "a", L: []api.Term{}}, atom("a"))
}

// A message has at most 1024 parts, and is at most 64 deep; of one more, toobig stands in the reason's place.
func TestP161MessagesAtTheLimits(t *testing.T) {
	for _, x := range []struct {
		what       string
		reason     api.Term
		exit, down bool // whether it has room
	}{
		{"1019 parts", wide(1019), true, true},
		{"1020 parts", wide(1020), true, true},
		{"1021 parts", wide(1021), true, false},
		{"1022 parts", wide(1022), false, false},
		{"1023 parts", wide(1023), false, false},
		{"1024 parts", wide(1024), false, false},
		{"1020 parts of three", tuple(wide(500), wide(500), wide(19)), true, true},
		{"1021 parts of three", tuple(wide(500), wide(500), wide(20)), true, false},
		{"1022 parts of three", tuple(wide(500), wide(500), wide(21)), false, false},
		{"62 deep", deepOf(61, in(1)), true, true},
		{"63 deep", deepOf(62, in(1)), true, true},
		{"63 deep, empty within", deepOf(62, list()), true, true},
		{"64 deep", deepOf(63, in(1)), false, false},
		{"64 deep, empty within", deepOf(63, tuple()), false, false},
		{"64 deep behind others", list(in(1), list(in(2)), deepOf(62, in(1))), false, false},
		{"1020 parts, 63 deep", list(deepOf(61, in(1)), wide(957)), true, true},
		{"1021 parts, 63 deep", list(deepOf(61, in(1)), wide(958)), true, false},
		{"1022 parts, 63 deep", list(deepOf(61, in(1)), wide(959)), false, false},
		{"1020 parts, 64 deep", list(deepOf(62, in(1)), wide(956)), false, false},
	} {
		exit, down := x.reason, x.reason
		if !x.exit {
			exit = toobig
		}
		if !x.down {
			down = toobig
		}
		for _, p := range append(wrongPids(), pid(0, 1), pid(255, api.MaxInt)) {
			wantExit(t, x.what, p, x.reason, exit)
			for _, ref := range append(wrongRefs(), 1, 5, api.MaxInt) {
				wantDown(t, x.what, ref, p, x.reason, down)
			}
		}
		if e := term.Check(sign.Exit(pid(0, 1), x.reason)); e != api.OK {
			t.Errorf("the exit of %s: %d", x.what, e)
		}
		if e := term.Check(sign.Down(1, pid(0, 1), x.reason)); e != api.OK {
			t.Errorf("the down of %s: %d", x.what, e)
		}
	}
}

// What the limits are is seen by layer 3: a message is toobig just if it would be refused.
func TestP161TooBigJustIfRefused(t *testing.T) {
	for _, x := range rights() {
		p := pid(4, 2)
		plain := []api.Term{atom("exit"), pidOf(p), x}
		if _, e := term.Make(api.KindTuple, plain); e == api.OK {
			wantExit(t, "has room", p, x, x)
		} else {
			wantExit(t, "has no room", p, x, toobig)
		}
		plain = []api.Term{atom("down"), refOf(9), pidOf(p), x}
		if _, e := term.Make(api.KindTuple, plain); e == api.OK {
			wantDown(t, "has room", 9, p, x, x)
		} else {
			wantDown(t, "has no room", 9, p, x, toobig)
		}
	}
}

// Pids and refs that may not be stand in the messages as they are.
func TestP161MessagesOfWrongPidsAndRefs(t *testing.T) {
	for _, x := range rights()[:25] {
		for _, p := range append(wrongPids(), pid(3, 3)) {
			wantExit(t, "wrong pid", p, x, x)
			for _, ref := range append(wrongRefs(), 1, 77, api.MaxInt) {
				wantDown(t, "wrong pid or ref", ref, p, x, x)
			}
		}
	}
}

// A reason that layer 3 refuses for its parts becomes toobig; any other one that may not be stands as it is.
func TestP161MessagesOfWrongReasons(t *testing.T) {
	for _, x := range wrongs() {
		inside := x.t
		if x.e == api.ErrParts {
			inside = toobig
		}
		for _, p := range append(wrongPids()[:5], pid(0, 1), pid(255, api.MaxInt)) {
			wantExit(t, x.what, p, x.t, inside)
			for _, ref := range append(wrongRefs(), 1, api.MaxInt) {
				wantDown(t, x.what, ref, p, x.t, inside)
			}
		}
	}
}

// A term that holds itself, where none may be at all, stands as it is, too.
func TestP161MessagesOfEndlessTerms(t *testing.T) {
	x := api.Term{Kind: api.KindInt, N: 3, L: endless(api.KindList).L}
	for _, m := range []api.Term{sign.Exit(pid(1, 1), x), sign.Down(1, pid(1, 1), x)} {
		if r := m.L[len(m.L)-1]; m.Kind != api.KindTuple || r.Kind != api.KindInt || r.N != 3 || len(r.L) != 1 {
			t.Error(m.Kind, r.Kind, r.N, len(r.L))
		}
	}
}
