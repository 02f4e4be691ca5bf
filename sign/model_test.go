package sign_test

import (
	"slices"
	"testing"

	"carousel/api"
	"carousel/term"
)

func good(p api.Pid) bool { return p.N > -1 && p.N < 256 && p.Gen > 0 && p.Gen <= api.MaxInt }

// ahead tells whether one pid stands ahead of another one.
func ahead(a, b api.Pid) bool { return a.N < b.N || a.N == b.N && a.Gen < b.Gen }

// toldInOrder tells whether ties are such as may be: the chapter's words, one by one, of each two of them.
func toldInOrder(ties []api.Tie) bool {
	for i, y := range ties {
		if !good(y.A) || !good(y.B) || y.Ref < 0 || y.Ref > api.MaxInt || y.Ref == 0 && !ahead(y.A, y.B) {
			return false
		}
		for _, x := range ties[:i] {
			switch {
			case x.Ref != 0 && y.Ref == 0:
				return false
			case y.Ref != 0 && x.Ref >= y.Ref:
				return false
			case y.Ref == 0 && !(ahead(x.A, y.A) || x.A == y.A && ahead(x.B, y.B)):
				return false
			}
		}
	}
	return true
}

// refusal is the error of a world, word by word.
func (w world) refusal() api.Errno {
	alive := false
	for i, x := range w.lives {
		if !good(x.Pid) || slices.ContainsFunc(w.lives[:i], func(y api.Life) bool { return y.Pid.N >= x.Pid.N }) {
			return api.ErrArg
		}
		alive = alive || x.Pid == w.first
	}
	if !toldInOrder(w.ties) {
		return api.ErrArg
	}
	if !alive {
		return api.ErrNone
	}
	return term.Check(w.reason)
}

// count is how many parts a term has that may be, and how deep they stand.
func count(t api.Term) (parts, deep int) {
	for _, x := range t.L {
		p, d := count(x)
		parts, deep = parts+p, max(deep, d)
	}
	return parts + 1, deep + 1
}

// modelMessage is a message, counted as a whole.
func modelMessage(why api.Term, l ...api.Term) api.Term {
	m := tuple(append(slices.Clone(l), why)...)
	if parts, deep := count(m); parts > 1024 || deep > 64 {
		m.L[len(l)] = atom("toobig")
	}
	return m
}

func modelExit(p api.Pid, why api.Term) api.Term { return modelMessage(why, atom("exit"), pidOf(p)) }

func modelDown(ref int, p api.Pid, why api.Term) api.Term {
	return modelMessage(why, atom("down"), refOf(ref), pidOf(p))
}

// net is a second way to look at ties: those who are linked with one, whoever they are, and the monitors that watch it.
type net struct {
	linked  map[api.Pid][]api.Pid
	watched map[api.Pid][]api.Tie
}

func (w world) net() net {
	n := net{map[api.Pid][]api.Pid{}, map[api.Pid][]api.Tie{}}
	for _, x := range w.ties {
		if x.Ref != 0 {
			n.watched[x.B] = append(n.watched[x.B], x)
			continue
		}
		n.linked[x.A] = append(n.linked[x.A], x.B)
		n.linked[x.B] = append(n.linked[x.B], x.A)
	}
	return n
}

// fallen is who dies, in order: ring by ring about the first one, each ring by who of the ring within it is the first to draw one in, then by places.
func (w world) fallen(n net) []api.Pid {
	all, within := []api.Pid{w.first}, []api.Pid{w.first}
	if w.reason.Kind == api.KindAtom && w.reason.S == "normal" {
		return all
	}
	for len(within) > 0 {
		drawn := map[api.Pid]int{}
		var next []api.Pid
		for _, x := range w.lives {
			if x.Trap || slices.Contains(all, x.Pid) {
				continue
			}
			by := slices.IndexFunc(within, func(p api.Pid) bool { return slices.Contains(n.linked[x.Pid], p) })
			if by >= 0 {
				drawn[x.Pid] = by
				next = append(next, x.Pid)
			}
		}
		slices.SortStableFunc(next, func(p, q api.Pid) int { return drawn[p] - drawn[q] })
		all, within = append(all, next...), next
	}
	return all
}

// second is a second way to do a cascade: first who dies, all of them, then what each of them tells to whom is left.
func (w world) second() (deaths []api.Death, posts []api.Post) {
	first := w.lives[slices.IndexFunc(w.lives, func(x api.Life) bool { return x.Pid == w.first })]
	normal := w.reason.Kind == api.KindAtom && w.reason.S == "normal"
	if first.Trap && !w.kill {
		return nil, []api.Post{{To: w.first, Term: modelExit(w.first, w.reason)}}
	}
	if normal && !w.kill {
		return nil, nil
	}
	n := w.net()
	fallen := w.fallen(n)
	for _, p := range fallen {
		deaths = append(deaths, api.Death{Pid: p, Reason: w.reason})
		for _, x := range w.lives {
			if x.Trap && !slices.Contains(fallen, x.Pid) && slices.Contains(n.linked[p], x.Pid) {
				posts = append(posts, api.Post{To: x.Pid, Term: modelExit(p, w.reason)})
			}
		}
		for _, m := range n.watched[p] {
			if !slices.Contains(fallen, m.A) && slices.ContainsFunc(w.lives, func(x api.Life) bool { return x.Pid == m.A }) {
				posts = append(posts, api.Post{To: m.A, Term: modelDown(m.Ref, p, w.reason)})
			}
		}
	}
	return deaths, posts
}

// ask does a cascade, holds it against the second way, and asks of the answer what follows of the promises. It tells the answer.
func ask(t *testing.T, w world) ([]api.Death, []api.Post, api.Errno) {
	t.Helper()
	d, p, e := w.cascade()
	if f := w.refusal(); e != f {
		t.Fatalf("%d, not %d: %s", e, f, w)
	}
	if e != api.OK {
		if len(d) > 0 || len(p) > 0 {
			t.Fatalf("beside %d: %s", e, showAnswer(d, p))
		}
		return nil, nil, e
	}
	if deaths, posts := w.second(); !sameAnswer(d, p, deaths, posts) {
		t.Fatalf("%s\ngot  %s\nwant %s", w, showAnswer(d, p), showAnswer(deaths, posts))
	}
	lawful(t, w, d, p)
	return d, p, api.OK
}

// subset are those of some whose bits are set.
func subset[T any](l []T, bits int) []T {
	var some []T
	for i, x := range l {
		if bits>>i&1 == 1 {
			some = append(some, x)
		}
	}
	return some
}

// crowd are so many lives from place 0 on, of which those trap whose bits are set.
func crowd(n, traps int) []api.Life {
	var l []api.Life
	for i := range n {
		l = append(l, api.Life{Pid: pid(i, 1), Trap: traps>>i&1 == 1})
	}
	return l
}

// pairs are the links of all with all.
func pairs(lives []api.Life) []api.Tie {
	var l []api.Tie
	for i, x := range lives {
		for _, y := range lives[i+1:] {
			l = append(l, api.Tie{A: x.Pid, B: y.Pid})
		}
	}
	return l
}

// All worlds of three: who traps, who is linked, and each set of monitors of all by all.
func TestP162AllWorldsOfThree(t *testing.T) {
	var monitors []api.Tie
	for i := range 9 {
		monitors = append(monitors, api.Tie{Ref: i + 1, A: pid(i*2%3, 1), B: pid(i/3, 1)})
	}
	n := 0
	for bits := range 1 << 15 {
		lives := crowd(3, bits&7)
		ties := append(subset(pairs(lives), bits>>3&7), subset(monitors, bits>>6)...)
		for i := range 3 {
			for _, why := range []api.Term{atom("oops"), atom("normal")} {
				for _, w := range both(world{lives, ties, pid(i, 1), why, false}) {
					ask(t, w)
					n++
				}
			}
		}
	}
	if n != 1<<15*12 {
		t.Error("worlds:", n)
	}
}

// All worlds of four, with some monitors, and of five, with drawn ones: who traps, and who is linked.
func TestP162AllLinksOfFourAndFive(t *testing.T) {
	for n := 4; n <= 5; n++ {
		var d draw = 45
		some := pairs(crowd(n, 0))
		for links := range 1 << len(some) {
			for traps := range 1 << n {
				if n == 5 && d.below(4) > 0 {
					continue
				}
				lives := crowd(n, traps)
				ties := append(subset(some, links), d.monitors(d.below(9), lives)...)
				w := world{lives, ties, pid(d.below(n), 1), atom("oops"), d.below(2) == 0}
				if d.below(8) == 0 {
					w.reason = atom("normal")
				}
				ask(t, w)
			}
		}
	}
}

// pid is a drawn one: mostly of one who is alive, else of a place's other actor, or of a place where nobody is.
func (d *draw) pid(lives []api.Life) api.Pid {
	if len(lives) == 0 || d.below(12) == 0 {
		return pid(d.below(256), 1+d.below(3))
	}
	p := one(d, lives).Pid
	if d.below(15) == 0 {
		p.Gen = p.Gen%api.MaxInt + 1
	}
	return p
}

// monitors are so many drawn ones, with rising refs.
func (d *draw) monitors(n int, lives []api.Life) []api.Tie {
	var l []api.Tie
	ref := 0
	for range n {
		ref += 1 + d.below(3)
		l = append(l, api.Tie{Ref: ref, A: d.pid(lives), B: d.pid(lives)})
	}
	return l
}

// links are at most so many drawn ones, in order.
func (d *draw) links(n int, lives []api.Life) []api.Tie {
	var l []api.Tie
	for range n {
		a, b := d.pid(lives), d.pid(lives)
		if ahead(b, a) {
			a, b = b, a
		}
		if a != b {
			l = append(l, api.Tie{A: a, B: b})
		}
	}
	slices.SortFunc(l, func(x, y api.Tie) int {
		switch {
		case x == y:
			return 0
		case ahead(x.A, y.A) || x.A == y.A && ahead(x.B, y.B):
			return -1
		}
		return 1
	})
	return slices.Compact(l)
}

// lives are at most so many drawn ones, of which about one of so many traps.
func (d *draw) lives(n, trap int) []api.Life {
	var l []api.Life
	at := 0
	for range n {
		at += d.below(max(1, 2*256/n))
		if at > 255 {
			break
		}
		l = append(l, api.Life{Pid: pid(at, 1+d.below(3)), Trap: d.below(trap) == 0})
		at++
	}
	return l
}

// world is a drawn one that may be, of at most so many lives, now and then by one of some reasons.
func (d *draw) world(most int, reasons []api.Term) world {
	w := world{lives: d.lives(1+d.below(most), 2+d.below(6)), kill: d.below(2) == 0}
	n := len(w.lives)
	w.ties = append(d.links(d.below(2*n+2), w.lives), d.monitors(d.below(2*n+2), w.lives)...)
	w.first = pid(1, 1)
	if n > 0 {
		w.first = one(d, w.lives).Pid
	}
	switch d.below(12) {
	case 0:
		w.reason = atom("normal")
	case 1:
		w.reason = one(d, reasons)
	default:
		w.reason = atom("oops")
	}
	return w
}

// spoilt is a world with something that may not be, now and then with one of some wrong reasons.
func (d *draw) spoilt(w world, reasons []wrong) world {
	w.lives, w.ties = slices.Clone(w.lives), slices.Clone(w.ties)
	for range 1 + d.below(2) {
		i, k := d.below(max(1, len(w.lives))), d.below(max(1, len(w.ties)))
		switch d.below(11) {
		case 0:
			w.first = d.pid(w.lives)
		case 1:
			w.reason = one(d, reasons).t
		case 2:
			w.first.Gen++
		case 3, 4:
			w.lives = append(w.lives, slices.Clone(w.lives)[:min(i, len(w.lives))]...)
		case 5:
			w.ties = append(w.ties, slices.Clone(w.ties)[:min(k, len(w.ties))]...)
		case 6:
			slices.Reverse(w.ties[:min(k, len(w.ties))])
		default:
			d.bend(w, i, k)
		}
	}
	return w
}

// bend writes something else over a life, or a tie.
func (d *draw) bend(w world, i, k int) {
	if i >= len(w.lives) || k >= len(w.ties) {
		return
	}
	p, x := one(d, append(wrongPids(), pid(3, 1), w.first)), &w.ties[k]
	switch d.below(6) {
	case 0:
		w.lives[i].Pid = p
	case 1:
		x.A = p
	case 2:
		x.B = p
	case 3:
		x.A, x.B = x.B, x.A
	case 4:
		x.Ref = one(d, append(wrongRefs(), 1, 4, api.MaxInt))
	case 5:
		x.B = x.A
	}
}

// Drawn worlds, small and great, held against the second way.
func TestP162DrawnWorlds(t *testing.T) {
	var d draw = 16
	reasons := rights()
	met := map[string]int{}
	for k := range 20000 {
		most := []int{4, 8, 20, 60}[k%4]
		if k%150 == 0 {
			most = 256
		}
		w := d.world(most, reasons)
		deaths, posts, e := ask(t, w)
		if e != api.OK {
			continue
		}
		if len(deaths) > 3 {
			met["many deaths"]++
		}
		for _, p := range posts {
			met[p.Term.L[0].S]++
			if p.Term.L[len(p.Term.L)-1].S == "toobig" {
				met["toobig"]++
			}
		}
		if len(deaths) == 0 && len(posts) > 0 {
			met["told alone"]++
		}
	}
	for what, n := range map[string]int{"many deaths": 1000, "exit": 2000, "down": 2000, "toobig": 20, "told alone": 200} {
		if met[what] < n {
			t.Error("the worlds come too seldom to something:", what, met[what])
		}
	}
}

// Drawn worlds that are spoilt: which error comes first.
func TestP162SpoiltWorlds(t *testing.T) {
	var d draw = 61
	may, mayNot := rights(), wrongs()
	met := map[api.Errno]int{}
	for range 20000 {
		_, _, e := ask(t, d.spoilt(d.world(6, may), mayNot))
		met[e]++
	}
	for _, e := range []api.Errno{api.OK, api.ErrArg, api.ErrNone, api.ErrTerm, api.ErrParts} {
		if met[e] < 150 {
			t.Error("the worlds come too seldom to an error:", e, met[e])
		}
	}
}
