package sign_test

import (
	"slices"
	"testing"

	"carousel/api"
)

// lawful asks of an answer what follows of the promises: P16.3, P16.4, P16.5, and that nobody is told anything else.
func lawful(t *testing.T, w world, deaths []api.Death, posts []api.Post) {
	t.Helper()
	l := laws{w, deaths, posts, map[api.Pid]int{}, map[api.Pid]bool{}, map[[2]api.Pid]bool{}}
	for i, x := range deaths {
		if _, twice := l.died[x.Pid]; twice {
			t.Fatalf("%v dies twice: %s", x.Pid, w)
		}
		l.died[x.Pid] = i
	}
	for _, x := range w.lives {
		l.trap[x.Pid] = x.Trap
	}
	for _, x := range w.ties {
		if x.Ref == 0 {
			l.links[[2]api.Pid{x.A, x.B}], l.links[[2]api.Pid{x.B, x.A}] = true, true
		}
	}
	if len(deaths) == 0 {
		l.nobody(t)
		return
	}
	l.deaths(t)
	if exits, downs := l.exits(t), l.downs(t); exits+downs != len(posts) {
		t.Fatalf("%d exits and %d downs are %d posts: %s", exits, downs, len(posts), w)
	}
}

type laws struct {
	w     world
	dead  []api.Death
	posts []api.Post
	died  map[api.Pid]int  // where who died stands
	trap  map[api.Pid]bool // of who is alive
	links map[[2]api.Pid]bool
}

// nobody: if nobody dies, the first one alone may be told, of itself.
func (l laws) nobody(t *testing.T) {
	t.Helper()
	fell := l.w.kill || !l.trap[l.w.first] && !same(l.w.reason, atom("normal"))
	var own []api.Post
	if l.trap[l.w.first] {
		own = []api.Post{{To: l.w.first, Term: modelExit(l.w.first, l.w.reason)}}
	}
	if fell || !slices.EqualFunc(l.posts, own, samePost) {
		t.Fatalf("nobody dies: %s: %s", l.w, showAnswer(nil, l.posts))
	}
}

// deaths is P16.3.
func (l laws) deaths(t *testing.T) {
	t.Helper()
	if l.dead[0].Pid != l.w.first {
		t.Fatalf("%v dies first: %s", l.dead[0].Pid, l.w)
	}
	for i, x := range l.dead {
		trap, alive := l.trap[x.Pid]
		if !alive || !same(x.Reason, l.w.reason) || i > 0 && trap {
			t.Fatalf("%v dies by %s: %s", x.Pid, show(x.Reason), l.w)
		}
		if i > 0 && !slices.ContainsFunc(l.dead[:i], func(y api.Death) bool { return l.links[[2]api.Pid{x.Pid, y.Pid}] && same(x.Reason, y.Reason) }) {
			t.Fatalf("%v is linked with nobody who died ahead of it: %s", x.Pid, l.w)
		}
	}
}

// times is how often one is told something.
func (l laws) times(to api.Pid, what api.Term) int {
	n := 0
	for _, x := range l.posts {
		if x.To == to && same(x.Term, what) {
			n++
		}
	}
	return n
}

// exits is P16.4: how many exits are told.
func (l laws) exits(t *testing.T) int {
	t.Helper()
	n := 0
	for _, x := range l.dead {
		for _, y := range l.w.lives {
			if _, died := l.died[y.Pid]; died || !l.links[[2]api.Pid{x.Pid, y.Pid}] {
				continue
			}
			if !y.Trap && !same(x.Reason, atom("normal")) {
				t.Fatalf("%v is linked with %v, which died, does not trap, and lives: %s", y.Pid, x.Pid, l.w)
			}
			if !y.Trap {
				continue
			}
			n++
			if k := l.times(y.Pid, modelExit(x.Pid, x.Reason)); k != 1 {
				t.Fatalf("%v is told %d times of %v's exit: %s", y.Pid, k, x.Pid, l.w)
			}
		}
	}
	return n
}

// downs is P16.5: how many downs are told.
func (l laws) downs(t *testing.T) int {
	t.Helper()
	n := 0
	for _, m := range l.w.ties {
		if m.Ref == 0 {
			continue
		}
		i, died := l.died[m.B]
		_, gone := l.died[m.A]
		_, alive := l.trap[m.A]
		want := 0
		if died && !gone && alive {
			want = 1
			if l.times(m.A, modelDown(m.Ref, m.B, l.dead[i].Reason)) != 1 {
				t.Fatalf("%v is not told of %v, once, by the monitor %d: %s", m.A, m.B, m.Ref, l.w)
			}
		}
		if k := l.ofRef(m.Ref); k != want {
			t.Fatalf("%d downs of the monitor %d: %s", k, m.Ref, l.w)
		}
		n += want
	}
	return n
}

// ofRef is how many downs with a ref there are, whoever is told.
func (l laws) ofRef(ref int) int {
	n := 0
	for _, x := range l.posts {
		if len(x.Term.L) == 4 && x.Term.L[0].S == "down" && x.Term.L[1].N == ref {
			n++
		}
	}
	return n
}

// Nobody dies twice; each who dies is linked with one ahead of it, and does not trap, but for the first one.
func TestP163WhoDies(t *testing.T) {
	var d draw = 163
	reasons := rights()
	n, killed := 0, 0
	for range 3000 {
		w := d.world(30, reasons)
		w.kill = true
		deaths, _, e := ask(t, w)
		if e != api.OK {
			continue
		}
		n += len(deaths)
		if i := slices.Index(w.lives, api.Life{Pid: w.first, Trap: true}); i >= 0 {
			killed++
		}
		// All who are linked with each other by ways of those who do not trap die, and no others do.
		if !same(w.reason, atom("normal")) && len(deaths) != len(w.reached()) {
			t.Fatalf("%d die, not %d: %s", len(deaths), len(w.reached()), w)
		}
	}
	if n < 10000 || killed < 300 {
		t.Error("too few die:", n, killed)
	}
}

// reached are the first one, and all who do not trap and are linked with one of them.
func (w world) reached() map[api.Pid]bool {
	l := map[api.Pid]bool{w.first: true}
	for before := 0; before < len(l); {
		before = len(l)
		for _, x := range w.ties {
			if x.Ref != 0 || l[x.A] == l[x.B] {
				continue
			}
			for _, p := range []api.Pid{x.A, x.B} {
				if slices.Contains(w.lives, api.Life{Pid: p}) {
					l[p] = true
				}
			}
		}
	}
	return l
}

// Who is linked with one who died, and lives, traps, or the reason is normal; and was told each such exit once.
func TestP164WhoIsTold(t *testing.T) {
	var d draw = 164
	reasons := rights()
	exits, normal := 0, 0
	for k := range 3000 {
		w := d.world(30, reasons)
		w.kill = true
		if k%3 == 0 {
			w.reason = atom("normal")
		}
		_, posts, e := ask(t, w)
		if e != api.OK {
			continue
		}
		for _, x := range posts {
			if x.Term.L[0].S != "exit" {
				continue
			}
			exits++
			if !slices.Contains(w.lives, api.Life{Pid: x.To, Trap: true}) {
				t.Fatalf("%v is told of an exit, and does not trap: %s", x.To, w)
			}
			if k%3 == 0 {
				normal++
			}
		}
	}
	if exits < 2000 || normal < 300 {
		t.Error("too few exits:", exits, normal)
	}
}

// Each monitor tells one down, if whom it watches died, and who watches did not; else none.
func TestP165WhoWatches(t *testing.T) {
	var d draw = 165
	reasons := rights()
	told, left := 0, 0
	for range 3000 {
		w := d.world(30, reasons)
		w.ties = append(d.links(len(w.lives), w.lives), d.monitors(60, w.lives)...)
		w.kill = true
		deaths, posts, e := ask(t, w)
		if e != api.OK {
			continue
		}
		for _, m := range w.ties {
			if m.Ref != 0 && slices.ContainsFunc(deaths, func(x api.Death) bool { return x.Pid == m.B }) {
				left++
			}
		}
		for _, x := range posts {
			if x.Term.L[0].S == "down" {
				told++
				left--
			}
		}
	}
	if told < 5000 || left < 3000 {
		t.Error("too few downs, or too few that are left out:", told, left)
	}
}
