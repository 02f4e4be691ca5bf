package sign_test

import (
	"slices"
	"testing"

	"carousel/api"
)

const end = api.MaxInt

// plain is a world in which nothing is wrong.
func plain() world {
	return world{folk("0 1 2!"), tied("0-1 1-2 5:2>1"), pid(0, 1), atom("oops"), false}
}

// wantArg asks that lives and ties are refused, whatever else is asked with them: ahead of who is not alive, and of a reason that may not be.
func wantArg(t *testing.T, what string, lives []api.Life, ties []api.Tie) {
	t.Helper()
	for _, first := range []api.Pid{pid(0, 1), pid(1, 1), pid(200, 9), {}} {
		for _, reason := range []api.Term{atom("oops"), atom("normal"), {}, wide(1025)} {
			for _, w := range both(world{lives, ties, first, reason, false}) {
				wantRefused(t, what, w, api.ErrArg)
			}
		}
	}
}

// wantTaken asks that lives and ties are not refused.
func wantTaken(t *testing.T, what string, lives []api.Life, ties []api.Tie) {
	t.Helper()
	w := world{lives: lives, ties: ties, reason: atom("oops"), kill: true}
	wantRefused(t, what, w, api.ErrNone)
	for _, x := range lives[:min(3, len(lives))] {
		w.first = x.Pid
		if d, _, e := w.cascade(); e != api.OK || len(d) == 0 || d[0].Pid != x.Pid {
			t.Fatalf("%s: %d\n%s", what, e, w)
		}
	}
}

func TestP162LivesThatMayNotBe(t *testing.T) {
	for what, lives := range map[string]string{
		"out of order":             "1 0",
		"out of order at the end":  "0 1 2 5 4",
		"out of order in between":  "0 2 1 3",
		"out of order by N alone":  "1 0.7",
		"the same N, Gen rising":   "0 0.2",
		"the same N, Gen falling":  "0.2 0",
		"the same twice":           "0 1 1",
		"the same N, one traps":    "0 1 1!",
		"the same N at the end":    "0 1 2 255 255.2",
		"the same, not neighbours": "0 1 0",
	} {
		wantArg(t, what, folk(lives), nil)
		wantArg(t, what, folk(lives), tied("0-1 5:0>1"))
	}
}

func TestP162LivesWithWrongPids(t *testing.T) {
	for _, p := range wrongPids() {
		for _, trap := range []bool{false, true} {
			x := api.Life{Pid: p, Trap: trap}
			wantArg(t, "alone", []api.Life{x}, nil)
			wantArg(t, "the first one", append([]api.Life{x}, folk("1 2 3")...), nil)
			for _, behind := range []string{"0", "0 1", "0 1 2", "0 200", "0 1 255"} {
				wantArg(t, "the last one", append(folk(behind), x), nil)
			}
			wantArg(t, "in between", slices.Insert(folk("0 1 2 5 6"), 3, x), nil)
		}
	}
}

// A pid is wrong by itself, where it stands in order, too.
func TestP162LivesInOrderWithAWrongPid(t *testing.T) {
	for what, l := range map[string][]api.Life{
		"N of -1 ahead":         {{Pid: pid(-1, 1)}, {Pid: pid(0, 1)}},
		"N of 256 behind":       {{Pid: pid(0, 1)}, {Pid: pid(255, 1)}, {Pid: pid(256, 1)}},
		"Gen of 0 in between":   {{Pid: pid(0, 1)}, {Pid: pid(1, 0)}, {Pid: pid(2, 1)}},
		"Gen too great":         {{Pid: pid(0, 1)}, {Pid: pid(1, end+1)}},
		"Gen below, at the end": {{Pid: pid(0, 1)}, {Pid: pid(1, 1)}, {Pid: pid(2, -7)}},
	} {
		wantArg(t, what, l, nil)
	}
}

func TestP162LivesThatMayBe(t *testing.T) {
	all := []api.Life{}
	for n := range 256 {
		all = append(all, api.Life{Pid: pid(n, end-n), Trap: n%2 == 0})
	}
	for what, lives := range map[string][]api.Life{
		"none": nil, "none, not nil": {}, "one": folk("0"), "the last one": {{Pid: pid(255, end)}}, "both ends": folk("0 255"), "Gens fall": folk("0.9 1.8 2.7 3.1"), "those that trap": folk("0! 1! 7!"), "as many as may be": all,
	} {
		wantTaken(t, what, lives, nil)
		wantTaken(t, what, lives, tied("0-1 1-2 5:2>1"))
	}
	// One more than all has no place.
	for _, p := range []api.Pid{pid(256, 1), pid(255, 1), pid(0, 1), pid(128, 9)} {
		wantArg(t, "one more than all", append(slices.Clone(all), api.Life{Pid: p}), nil)
	}
}

func TestP162TiesThatMayNotBe(t *testing.T) {
	for what, ties := range map[string]string{
		"a monitor ahead of a link":       "5:0>1 0-1",
		"a monitor between links":         "0-1 5:0>1 1-2",
		"links out of order by A":         "1-2 0-1",
		"links out of order by A's Gen":   "1.2-2 1.1-2",
		"links out of order by A alone":   "1-2 0-9",
		"links out of order by B":         "0-2 0-1",
		"links out of order by B's Gen":   "0-1.2 0-1",
		"links out of order at the end":   "0-1 0-2 1-2 1-3 1-2",
		"the same link twice":             "0-1 0-1",
		"the same link twice, apart":      "0-1 0-2 0-1",
		"the same link from both sides":   "0-1 1-0",
		"refs falling":                    "5:0>1 4:0>1",
		"refs falling, pids rising":       "5:0>1 4:1>2",
		"refs falling at the end":         "1:0>1 2:0>1 3:0>1 2:1>0",
		"the same ref":                    "5:0>1 5:0>1",
		"the same ref, others":            "5:0>1 5:1>2",
		"the same ref, apart":             "5:0>1 6:0>1 5:0>1",
		"a link of one with itself":       "1-1",
		"a link with itself behind":       "0-1 1-1",
		"a link whose A is behind":        "1-0",
		"a link whose A is behind by Gen": "1.2-1",
		"a link whose A is behind by N":   "2.1-1.5",
		"a link from behind at the end":   "0-1 0-2 1-2 3-2",
		"a ref below":                     "-1:0>1",
		"a ref below ahead of others":     "-1:0>1 1:0>1",
		"a ref below behind a link":       "0-1 -1:0>1",
		"a ref below, A ahead of B":       "-5:0>1",
		"a link behind a ref below":       "-1:0>1 0-1",
	} {
		wantArg(t, what, folk("0 1 2"), tied(ties))
		wantArg(t, what, folk("0! 1! 2! 3"), tied(ties))
		wantArg(t, what, nil, tied(ties))
	}
}

func TestP162TiesWithWrongRefs(t *testing.T) {
	a, b := pid(0, 1), pid(1, 1)
	for _, ref := range wrongRefs() {
		if ref == 0 {
			continue
		}
		x := api.Tie{Ref: ref, A: a, B: b}
		wantArg(t, "alone", folk("0 1"), []api.Tie{x})
		wantArg(t, "the first one", folk("0 1"), append([]api.Tie{x}, tied("5:0>1 6:0>1")...))
		wantArg(t, "the last one", folk("0 1"), append(tied("0-1 5:0>1"), x))
		wantArg(t, "behind the last ref", folk("0 1"), []api.Tie{{Ref: end, A: a, B: b}, x})
	}
	for _, ref := range []int{1, 2, 1 << 32, end - 1, end} {
		wantTaken(t, "a ref that may be", folk("0 1"), []api.Tie{{A: a, B: b}, {Ref: ref, A: b, B: a}})
	}
	wantTaken(t, "both ends", folk("0 1"), []api.Tie{{Ref: 1, A: b, B: a}, {Ref: end, A: b, B: a}})
}

func TestP162TiesWithWrongPids(t *testing.T) {
	good := []api.Pid{pid(0, 1), pid(1, 1), pid(255, end)}
	for _, p := range wrongPids() {
		for _, q := range good {
			for ref := range 2 {
				for _, x := range []api.Tie{{Ref: ref, A: p, B: q}, {Ref: ref, A: q, B: p}, {Ref: ref, A: p, B: p}} {
					wantArg(t, "alone", folk("0 1"), []api.Tie{x})
					wantArg(t, "the first one", folk("0 1"), append([]api.Tie{x}, tied("3-4 5:0>1")...))
					wantArg(t, "the last one", folk("0 1"), append(tied("0-1"), x))
					x.Ref *= 9
					wantArg(t, "behind others", folk("0 1"), append(tied("0-1 5:0>1"), x))
				}
			}
		}
	}
}

func TestP162TiesThatMayBe(t *testing.T) {
	a, b, c := pid(0, 1), pid(0, end), pid(255, end)
	for what, ties := range map[string][]api.Tie{
		"none":                        nil,
		"none, not nil":               {},
		"a link":                      tied("0-1"),
		"a link by Gen alone":         tied("1.1-1.2"),
		"a link at the edges":         {{A: a, B: c}},
		"links at the edges":          {{A: a, B: b}, {A: a, B: c}, {A: b, B: c}},
		"links by A, B falling":       tied("0-9 1-2 1-3 2-3"),
		"links by Gen":                tied("0-1.1 0-1.2 0.2-1.1 1.1-1.2"),
		"a monitor":                   tied("1:0>1"),
		"a monitor of one by itself":  tied("1:1>1"),
		"monitors, pids falling":      tied("1:2>1 2:1>0 3:0>0"),
		"monitors of the same two":    tied("1:0>1 2:0>1 3:1>0"),
		"links and monitors":          tied("0-1 1-2 1:1>0 9:0>1"),
		"a monitor as its link":       tied("0-1 1:0>1"),
		"of those who are not lives":  tied("7-8 8-9 1:7>8 2:8>8"),
		"of another one at the place": tied("0.2-1.2 1:0.2>1.2"),
	} {
		wantTaken(t, what, folk("0 1 2"), ties)
		wantTaken(t, what, nil, ties)
	}
}

// Of each ordered row of some ties, those that are told in order are taken, and no others.
func TestP162AllShortTies(t *testing.T) {
	l := tied("0-1 0-1.2 0.2-1 1-0 1-1 1-2 1:0>1 1:1>1 2:0>0 2:2>1 -1:0>1")
	l = append(l, api.Tie{A: pid(0, 1), B: pid(256, 1)}, api.Tie{Ref: end + 1, A: pid(0, 1), B: pid(1, 1)})
	for _, x := range l {
		for _, y := range l {
			for _, z := range l {
				for _, row := range [][]api.Tie{{x}, {x, y}, {x, y, z}} {
					w := world{folk("0 1"), row, pid(1, 1), atom("oops"), true}
					if _, _, e := w.cascade(); (e == api.OK) != toldInOrder(row) || e != api.OK && e != api.ErrArg {
						t.Fatalf("%d of %v", e, row)
					}
				}
			}
		}
	}
}

func TestP162FirstIsNotAlive(t *testing.T) {
	w := plain()
	for what, p := range map[string]api.Pid{
		"another N": pid(3, 1), "another N, far": pid(255, 1), "another Gen": pid(1, 2), "another Gen, last": pid(2, end), "a Gen of 0": pid(1, 0), "N and Gen the other way round": pid(1, 3), "zero": {}, "N of -1": pid(-1, 1), "N of 256": pid(256, 1), "N beyond": pid(1<<32, 1), "the least": pid(least, least), "the most": pid(most, most),
	} {
		for _, reason := range []api.Term{atom("oops"), atom("normal"), {}, atom("nil"), wide(1025), deepOf(64, in(1)), endless(api.KindList)} {
			w.first, w.reason = p, reason
			for _, x := range both(w) {
				wantRefused(t, what, x, api.ErrNone)
				x.lives = folk("0 1.7 2! 9 100.4")
				wantRefused(t, what, x, api.ErrNone)
				x.lives, x.ties = nil, nil
				wantRefused(t, what+", no lives", x, api.ErrNone)
			}
		}
	}
	for _, p := range wrongPids() {
		w.first, w.reason = p, atom("oops")
		wantRefused(t, "a pid that may not be", w, api.ErrNone)
	}
}

// Who has ties, but is not among lives, is not alive.
func TestP162FirstHasTiesAlone(t *testing.T) {
	w := plain()
	w.lives, w.first = folk("1 2"), pid(0, 1)
	for _, x := range both(w) {
		wantRefused(t, "ties alone", x, api.ErrNone)
	}
}

func TestP162ReasonsThatMayNotBe(t *testing.T) {
	for _, x := range wrongs() {
		w := plain()
		w.reason = x.t
		for _, first := range []api.Pid{pid(0, 1), pid(1, 1), pid(2, 1)} {
			w.first = first
			for _, y := range both(w) {
				wantRefused(t, x.what, y, x.e)
				y.ties = nil
				wantRefused(t, x.what, y, x.e)
			}
		}
	}
}

func TestP162ReasonsThatMayBe(t *testing.T) {
	for _, x := range rights() {
		w := plain()
		w.reason = x
		for _, y := range both(w) {
			if _, _, e := y.cascade(); e != api.OK {
				t.Errorf("%s: %d", show(x), e)
			}
		}
	}
}

// Of two errors the one that is named first is told.
func TestP162TheOrderOfErrors(t *testing.T) {
	badLives, badTies := folk("1 0"), tied("1-0")
	for _, x := range []struct {
		what  string
		lives []api.Life
		ties  []api.Tie
		first api.Pid
		why   api.Term
		e     api.Errno
	}{
		{"all is wrong", badLives, badTies, pid(9, 9), api.Term{}, api.ErrArg},
		{"lives and ties", badLives, badTies, pid(1, 1), atom("oops"), api.ErrArg},
		{"lives, and who is not alive", badLives, nil, pid(9, 9), atom("oops"), api.ErrArg},
		{"ties, and who is not alive", folk("0 1"), badTies, pid(9, 9), atom("oops"), api.ErrArg},
		{"ties, no lives", nil, badTies, pid(0, 1), atom("oops"), api.ErrArg},
		{"lives, and the reason", badLives, nil, pid(0, 1), api.Term{}, api.ErrArg},
		{"ties, and the reason", folk("0 1"), badTies, pid(0, 1), wide(1025), api.ErrArg},
		{"who is not alive, and the reason", folk("0 1"), nil, pid(2, 1), api.Term{}, api.ErrNone},
		{"who is not alive, and a great reason", folk("0 1"), nil, pid(0, 2), wide(1025), api.ErrNone},
		{"the reason alone", folk("0 1"), nil, pid(0, 1), api.Term{}, api.ErrTerm},
		{"a great reason alone", folk("0 1"), nil, pid(0, 1), wide(1025), api.ErrParts},
		{"nothing", folk("0 1"), nil, pid(0, 1), wide(1024), api.OK},
	} {
		for _, w := range both(world{x.lives, x.ties, x.first, x.why, false}) {
			if x.e != api.OK {
				wantRefused(t, x.what, w, x.e)
			} else if _, _, e := w.cascade(); e != api.OK {
				t.Errorf("%s: %d", x.what, e)
			}
		}
	}
}

// A wrong reason is refused where nobody would fall, and nobody be told of it, too.
func TestP162ReasonsOfNothing(t *testing.T) {
	for _, trap := range []string{"0", "0!"} {
		for _, w := range both(world{lives: folk(trap), first: pid(0, 1)}) {
			w.reason = atom("nil")
			wantRefused(t, "no atom", w, api.ErrTerm)
			w.reason = api.Term{Kind: api.KindAtom, S: "normal", N: 1}
			wantRefused(t, "almost normal", w, api.ErrTerm)
			w.reason = wide(1025)
			wantRefused(t, "too great", w, api.ErrParts)
		}
	}
}
