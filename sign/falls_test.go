package sign_test

import (
	"testing"

	"carousel/api"
	"carousel/sign"
)

// wantFalls asks Falls: of who falls for the reason, of who does not for nothing beside it.
func wantFalls(t *testing.T, what string, trap bool, reason api.Term, kill, want bool) {
	t.Helper()
	var why api.Term
	if want {
		why = reason
	}
	if is, got := sign.Falls(trap, reason, kill); is != want || !same(got, why) {
		t.Errorf("%s: Falls(%v, %s, %v): %v, %s", what, trap, show(reason), kill, is, show(got))
	}
}

func TestP161FallsExamples(t *testing.T) {
	wantFalls(t, "example", true, atom("oops"), false, false)
	wantFalls(t, "example", true, atom("oops"), true, true)
	wantFalls(t, "example", false, atom("normal"), false, false)
}

// By normal one falls only if it is killed.
func TestP161FallsByNormal(t *testing.T) {
	for _, normal := range []api.Term{atom("normal"), {Kind: api.KindAtom, S: "normal", L: []api.Term{}}, {Kind: api.KindAtom, S: "nor" + "mal", L: wide(1024).L[:0]}} {
		for _, trap := range []bool{false, true} {
			wantFalls(t, "normal", trap, normal, false, false)
			wantFalls(t, "normal", trap, normal, true, true)
		}
	}
}

// By all else that may be one falls, unless it traps and is not killed.
func TestP161FallsByOthers(t *testing.T) {
	others := []api.Term{atom("n"), atom("norma"), atom("normal1"), atom("normal_"), atom("nOrmal"), atom("norMal"), atom("normaL"), atom("kill"), atom("killed"), atom("noproc"), atom("toobig"), atom("badkind")}
	for _, x := range append(others, rights()...) {
		if same(x, atom("normal")) {
			continue
		}
		wantFalls(t, "may be", false, x, false, true)
		wantFalls(t, "may be", false, x, true, true)
		wantFalls(t, "may be", true, x, false, false)
		wantFalls(t, "may be", true, x, true, true)
	}
}

// A reason that may not be is no atom normal, whatever name it has: who does not trap falls by it.
func TestP161FallsByWhatMayNotBe(t *testing.T) {
	for _, x := range wrongs() {
		if x.what == "an endless list" || x.what == "an endless tuple" {
			continue // the next test's: no two of them can be held against each other
		}
		wantFalls(t, x.what, false, x.t, false, true)
		wantFalls(t, x.what, false, x.t, true, true)
		wantFalls(t, x.what, true, x.t, false, false)
		wantFalls(t, x.what, true, x.t, true, true)
	}
}

func TestP161FallsByEndlessTerms(t *testing.T) {
	inAtom := api.Term{Kind: api.KindAtom, S: "normal", L: endless(api.KindList).L}
	for _, x := range []api.Term{endless(api.KindList), endless(api.KindTuple), inAtom} {
		for _, kill := range []bool{false, true} {
			if is, why := sign.Falls(false, x, kill); !is || why.Kind != x.Kind || why.S != x.S || len(why.L) != 1 {
				t.Error(kill, is, why.Kind)
			}
			if is, why := sign.Falls(true, x, kill); is != kill || kill && why.Kind != x.Kind || !kill && !same(why, api.Term{}) {
				t.Error(kill, is, why.Kind)
			}
		}
	}
}
