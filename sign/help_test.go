package sign_test

import (
	"fmt"
	"math"
	"slices"
	"strconv"
	"strings"
	"testing"

	"carousel/api"
	"carousel/sign"
	"carousel/text"
)

const (
	least = -1 << 63
	most  = 1<<63 - 1
)

func pid(n, gen int) api.Pid { return api.Pid{N: n, Gen: gen} }

func atom(s string) api.Term { return api.Term{Kind: api.KindAtom, S: s} }

func in(n int) api.Term { return api.Term{Kind: api.KindInt, N: n} }

func pidOf(p api.Pid) api.Term { return api.Term{Kind: api.KindPid, P: p} }

func refOf(n int) api.Term { return api.Term{Kind: api.KindRef, N: n} }

func tuple(l ...api.Term) api.Term { return api.Term{Kind: api.KindTuple, L: l} }

func list(l ...api.Term) api.Term { return api.Term{Kind: api.KindList, L: l} }

// wide is a list of that many parts, all but itself ints.
func wide(parts int) api.Term {
	var l []api.Term
	for n := range parts - 1 {
		l = append(l, in(n))
	}
	return list(l...)
}

// deepOf is a term within so many others, tuples and lists by turns.
func deepOf(within int, t api.Term) api.Term {
	for k := range within {
		t = api.Term{Kind: api.KindTuple + k%2, L: []api.Term{t}}
	}
	return t
}

// endless is a tuple or a list that holds itself.
func endless(kind int) api.Term {
	l := make([]api.Term, 1)
	l[0] = api.Term{Kind: kind, L: l}
	return l[0]
}

// same tells whether two terms are the same in all fields, noughts' signs too; nil is the empty list.
func same(a, b api.Term) bool {
	bit := math.Float64bits
	return a.Kind == b.Kind && a.N == b.N && a.S == b.S && a.P == b.P &&
		bit(real(a.C)) == bit(real(b.C)) && bit(imag(a.C)) == bit(imag(b.C)) &&
		slices.EqualFunc(a.L, b.L, same)
}

// rights are reasons that may be, of each kind, and at the edges of what a message has room for.
func rights() []api.Term {
	return []api.Term{
		atom("oops"), atom("normal"), atom("kill"), atom("normal1"), atom("norma"), atom("noproc"), atom("toobig"), atom("a" + strings.Repeat("Z", 63)),
		{Kind: api.KindNil}, {Kind: api.KindBool}, {Kind: api.KindBool, N: 1}, in(0), in(api.MinInt), in(api.MaxInt), {Kind: api.KindComplex}, {Kind: api.KindComplex, C: complex(-api.MaxPart, api.MaxPart)},
		pidOf(pid(0, 1)), pidOf(pid(255, api.MaxInt)), refOf(1), refOf(api.MaxInt), tuple(), tuple(atom("normal")), tuple(atom("exit"), pidOf(pid(1, 1)), atom("normal")), list(), list(atom("normal"), list(in(1))),
		wide(1019), wide(1020), wide(1021), wide(1022), wide(1023), wide(1024), tuple(wide(510), wide(509)), tuple(wide(510), wide(510)), tuple(wide(510), wide(511)),
		deepOf(61, in(1)), deepOf(62, in(1)), deepOf(63, in(1)), deepOf(62, list()), deepOf(63, tuple()), list(deepOf(61, in(1)), wide(958)), list(deepOf(61, in(1)), wide(959)), list(deepOf(62, in(1)), wide(957)),
	}
}

type wrong struct {
	what string
	t    api.Term
	e    api.Errno
}

// almostNormal are terms that have the name normal, and are none of its atoms.
func almostNormal() []wrong {
	var l []wrong
	for _, x := range []struct {
		what string
		t    api.Term
	}{
		{"an N", api.Term{N: 1}},
		{"an N below", api.Term{N: least}},
		{"a C", api.Term{C: 1i}},
		{"a C, no number", api.Term{C: complex(math.Inf(1), 0)}},
		{"a P.N", api.Term{P: pid(1, 0)}},
		{"a P.Gen", api.Term{P: pid(0, 1)}},
		{"an L", api.Term{L: []api.Term{in(1)}}},
		{"no term in L", api.Term{L: []api.Term{{}}}},
		{"a great L", api.Term{L: wide(3000).L}},
	} {
		x.t.Kind, x.t.S = api.KindAtom, "normal"
		l = append(l, wrong{"normal with " + x.what, x.t, api.ErrTerm})
	}
	for kind := api.KindNil; kind <= api.KindList; kind++ {
		if kind != api.KindAtom {
			l = append(l, wrong{"the name normal, of kind " + strconv.Itoa(kind), api.Term{Kind: kind, S: "normal"}, api.ErrTerm})
		}
	}
	for _, kind := range []int{least, -5, 0, api.KindList + 1, api.KindAtom + 1<<32, most} {
		l = append(l, wrong{"the name normal, of no kind", api.Term{Kind: kind, S: "normal"}, api.ErrTerm})
	}
	return l
}

// wrongs are reasons that may not be, and what layer 3 tells of them.
func wrongs() []wrong {
	return append(almostNormal(), []wrong{
		{"no kind", api.Term{}, api.ErrTerm},
		{"a kind that there is not", api.Term{Kind: 10}, api.ErrTerm},
		{"a kind below", api.Term{Kind: -1}, api.ErrTerm},
		{"no atom", atom(""), api.ErrTerm},
		{"no atom: nil", atom("nil"), api.ErrTerm},
		{"no atom: true", atom("true"), api.ErrTerm},
		{"no atom: Normal", atom("Normal"), api.ErrTerm},
		{"no atom: normal and a blank", atom("normal "), api.ErrTerm},
		{"no atom: too long", atom("a" + strings.Repeat("Z", 64)), api.ErrTerm},
		{"an int too great", in(api.MaxInt + 1), api.ErrTerm},
		{"a bool of 2", api.Term{Kind: api.KindBool, N: 2}, api.ErrTerm},
		{"half a part", api.Term{Kind: api.KindComplex, C: complex(0.5, 0)}, api.ErrTerm},
		{"a nought below", api.Term{Kind: api.KindComplex, C: complex(0, math.Copysign(0, -1))}, api.ErrTerm},
		{"a pid that may not be", pidOf(pid(256, 1)), api.ErrTerm},
		{"a ref that may not be", refOf(0), api.ErrTerm},
		{"a list with what is none", list(atom("normal"), api.Term{}), api.ErrTerm},
		{"a wide list that is none itself", api.Term{Kind: api.KindList, N: 1, L: wide(2000).L}, api.ErrTerm},
		{"a wide list that begins with none", list(append([]api.Term{{}}, wide(2000).L...)...), api.ErrTerm},
		{"none, 64 deep", deepOf(63, api.Term{}), api.ErrTerm},
		{"1024 parts, the last one none", list(append(wide(1023).L, api.Term{})...), api.ErrTerm},
		{"1022 parts, the last one none", list(append(wide(1021).L, api.Term{})...), api.ErrTerm},
		{"1025 parts", wide(1025), api.ErrParts},
		{"1025 parts, the last one none", list(append(wide(1024).L, api.Term{})...), api.ErrParts},
		{"2000 parts", wide(2000), api.ErrParts},
		{"65 deep", deepOf(64, in(1)), api.ErrParts},
		{"65 deep, the last one none", deepOf(64, api.Term{}), api.ErrParts},
		{"10000 deep", deepOf(10000, in(1)), api.ErrParts},
		{"an endless list", endless(api.KindList), api.ErrParts},
		{"an endless tuple", tuple(atom("normal"), endless(api.KindTuple)), api.ErrParts},
	}...)
}

// wrongPids are pids that may not be.
func wrongPids() []api.Pid {
	return []api.Pid{{}, pid(-1, 1), pid(256, 1), pid(0, 0), pid(255, 0), pid(0, -1), pid(0, api.MaxInt+1), pid(255, api.MaxInt+1), pid(-1, 0), pid(256, 0), pid(257, 3), pid(1<<32, 1), pid(api.MaxInt, 1), pid(least, 1), pid(most, 1), pid(3, least), pid(3, most), pid(least, least), pid(most, most)}
}

// wrongRefs are refs that no monitor may have.
func wrongRefs() []int {
	return []int{0, -1, -5, api.MinInt, api.MinInt - 1, least, api.MaxInt + 1, api.MaxInt + 2, most}
}

// world is what a cascade is asked with.
type world struct {
	lives  []api.Life
	ties   []api.Tie
	first  api.Pid
	reason api.Term
	kill   bool
}

func number(s string) int {
	n, err := strconv.Atoi(s)
	if err != nil {
		panic(err)
	}
	return n
}

// who is a pid by its text: its place, and behind a point its Gen, if that is not 1.
func who(s string) api.Pid {
	n, gen, told := strings.Cut(s, ".")
	if !told {
		gen = "1"
	}
	return pid(number(n), number(gen))
}

// folk are lives by a text: their pids; whoever traps has a ! behind it.
func folk(s string) []api.Life {
	var l []api.Life
	for _, w := range strings.Fields(s) {
		name, trap := strings.CutSuffix(w, "!")
		l = append(l, api.Life{Pid: who(name), Trap: trap})
	}
	return l
}

// tied are ties by a text: 0-1 is a link, 5:0>1 the monitor 5 by which 0 watches 1.
func tied(s string) []api.Tie {
	var l []api.Tie
	for _, w := range strings.Fields(s) {
		if ref, w, monitor := strings.Cut(w, ":"); monitor {
			a, b, _ := strings.Cut(w, ">")
			l = append(l, api.Tie{Ref: number(ref), A: who(a), B: who(b)})
			continue
		}
		a, b, _ := strings.Cut(w, "-")
		l = append(l, api.Tie{A: who(a), B: who(b)})
	}
	return l
}

// died are deaths by a text: the pids of those who die by a reason.
func died(s string, why api.Term) []api.Death {
	var l []api.Death
	for _, w := range strings.Fields(s) {
		l = append(l, api.Death{Pid: who(w), Reason: why})
	}
	return l
}

// told are posts by a text: "2 exit 1" is what 2 is told of 1, "2 down 5 1" by its monitor 5; what stands between commas is one. Why is what stands in the messages.
func told(s string, why api.Term) []api.Post {
	var l []api.Post
	for _, x := range strings.Split(s, ",") {
		switch w := strings.Fields(x); len(w) {
		case 3:
			l = append(l, api.Post{To: who(w[0]), Term: tuple(atom("exit"), pidOf(who(w[2])), why)})
		case 4:
			l = append(l, api.Post{To: who(w[0]), Term: tuple(atom("down"), refOf(number(w[2])), pidOf(who(w[3])), why)})
		}
	}
	return l
}

// show is a term as a text that is not too long to be told.
func show(t api.Term) string {
	s, e := text.Print(t)
	if e != api.OK {
		return fmt.Sprintf("a term that may not be (%d): kind %d", e, t.Kind)
	}
	if len(s) > 120 {
		s = s[:120] + " .."
	}
	return s
}

func (w world) String() string {
	var s strings.Builder
	fmt.Fprintf(&s, "first %v, kill %v, reason %s, lives %v, ties %v", w.first, w.kill, show(w.reason), w.lives[:min(len(w.lives), 20)], w.ties[:min(len(w.ties), 40)])
	return s.String()
}

func showAnswer(deaths []api.Death, posts []api.Post) string {
	var s strings.Builder
	for _, d := range deaths {
		fmt.Fprintf(&s, "%v dies by %s; ", d.Pid, show(d.Reason))
	}
	for _, p := range posts {
		fmt.Fprintf(&s, "%v is told %s; ", p.To, show(p.Term))
	}
	return s.String()
}

func sameDeath(a, b api.Death) bool { return a.Pid == b.Pid && same(a.Reason, b.Reason) }

func samePost(a, b api.Post) bool { return a.To == b.To && same(a.Term, b.Term) }

func sameAnswer(d []api.Death, p []api.Post, deaths []api.Death, posts []api.Post) bool {
	return slices.EqualFunc(d, deaths, sameDeath) && slices.EqualFunc(p, posts, samePost)
}

func (w world) cascade() ([]api.Death, []api.Post, api.Errno) {
	return sign.Cascade(w.lives, w.ties, w.first, w.reason, w.kill)
}

// wantAnswer asks for who dies, and who is told.
func wantAnswer(t *testing.T, w world, deaths []api.Death, posts []api.Post) {
	t.Helper()
	d, p, e := w.cascade()
	if e != api.OK || !sameAnswer(d, p, deaths, posts) {
		t.Fatalf("%s\ngot  %s%d\nwant %s", w, showAnswer(d, p), e, showAnswer(deaths, posts))
	}
}

// wantRefused asks for an error, and for nothing beside it.
func wantRefused(t *testing.T, what string, w world, f api.Errno) {
	t.Helper()
	if d, p, e := w.cascade(); e != f || len(d) > 0 || len(p) > 0 {
		t.Fatalf("%s: %d, not %d; %s\n%s", what, e, f, showAnswer(d, p), w)
	}
}

// both are the two worlds of one, killed and not.
func both(w world) []world {
	k := w
	w.kill, k.kill = false, true
	return []world{w, k}
}

// draw are numbers by a fixed rule.
type draw uint64

func (d *draw) below(n int) int {
	*d = *d*6364136223846793005 + 1442695040888963407
	return int(*d>>33) % n
}

// one is one of some, drawn.
func one[T any](d *draw, l []T) T { return l[d.below(len(l))] }
