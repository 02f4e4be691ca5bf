package sign_test

import (
	"strconv"
	"strings"
	"testing"

	"carousel/api"
)

// wantCascade asks for a world's answer by texts. Who dies, and who is told, has the same reason, and a lawful answer.
func wantCascade(t *testing.T, w world, deaths, posts string) {
	t.Helper()
	wantAnswer(t, w, died(deaths, w.reason), told(posts, w.reason))
	ask(t, w)
}

func TestP162Examples(t *testing.T) {
	w := world{folk("0 1 2!"), tied("0-1 1-2"), pid(0, 1), atom("oops"), true}
	wantCascade(t, w, "0 1", "2 exit 1")
	w.ties = tied("0-1 1-2 5:2>1")
	wantCascade(t, w, "0 1", "2 exit 1, 2 down 5 1")
	w.reason = atom("normal")
	wantCascade(t, w, "0", "")
}

// The first one falls, or it does not: then nobody dies, and it is told of its own exit, if it traps.
func TestP162TheFirstOne(t *testing.T) {
	for _, ties := range []string{"", "0-1", "0-1 0-2 1-2 3:1>0 4:0>0 5:0>1"} {
		for _, x := range []struct {
			first, why     string
			kill           bool
			deaths, exited string
		}{
			{"0", "oops", false, "0", ""},
			{"0", "oops", true, "0", ""},
			{"0", "normal", false, "", ""},
			{"0", "normal", true, "0", ""},
			{"0!", "oops", false, "", "0 exit 0"},
			{"0!", "oops", true, "0", ""},
			{"0!", "normal", false, "", "0 exit 0"},
			{"0!", "normal", true, "0", ""},
			{"0!", "kill", false, "", "0 exit 0"},
			{"0", "kill", false, "0", ""},
			{"0", "normal1", false, "0", ""},
			{"0", "norma", false, "0", ""},
		} {
			w := world{folk(x.first), tied(ties), pid(0, 1), atom(x.why), x.kill}
			wantCascade(t, w, x.deaths, x.exited)
		}
	}
}

// A first one that does not fall is told of nobody else, and nobody else is told.
func TestP162TheFirstOneDoesNotFall(t *testing.T) {
	ties := tied("0-1 0-2 1-2 1-3 3:1>0 4:0>0 5:0>1 6:3>0 7:0>3")
	for _, lives := range []string{"0 1! 2 3!", "0 1 2 3", "0 1! 2! 3!"} {
		wantCascade(t, world{folk(lives), ties, pid(0, 1), atom("normal"), false}, "", "")
	}
	for _, lives := range []string{"0! 1! 2 3!", "0! 1 2 3", "0! 1! 2! 3!"} {
		for _, why := range rights()[:25] {
			wantCascade(t, world{folk(lives), ties, pid(0, 1), why, false}, "", "0 exit 0")
		}
	}
}

// By normal nobody dies with the first one; who traps is told, who watches, too.
func TestP162KilledByNormal(t *testing.T) {
	ties := tied("0-1 0-2 0-3 1-2 2-3 3:1>0 4:0>0 5:3>0 7:4>0 8:1>2")
	wantCascade(t, world{folk("0 1 2! 3! 4"), ties, pid(0, 1), atom("normal"), true}, "0", "2 exit 0, 3 exit 0, 1 down 3 0, 3 down 5 0, 4 down 7 0")
	wantCascade(t, world{folk("0! 1! 2 3 4!"), ties, pid(0, 1), atom("normal"), true}, "0", "1 exit 0, 1 down 3 0, 3 down 5 0, 4 down 7 0")
}

func TestP162Shapes(t *testing.T) {
	for _, x := range []struct {
		what, lives, ties, first, deaths, posts string
	}{
		{"nobody else", "3", "", "3", "3", ""},
		{"no ties", "0 1 2!", "", "1", "1", ""},
		{"linked, one dies with the other", "0 1", "0-1", "0", "0 1", ""},
		{"linked from behind", "0 1", "0-1", "1", "1 0", ""},
		{"linked, the other one traps", "0 1!", "0-1", "0", "0", "1 exit 0"},
		{"linked from behind, the other one traps", "0! 1", "0-1", "1", "1", "0 exit 1"},
		{"both trap", "0! 1!", "0-1", "0", "0", "1 exit 0"},
		{"who traps lets nothing on", "0 1! 2", "0-1 1-2", "0", "0", "1 exit 0"},
		{"round who traps", "0 1! 2 3", "0-1 0-2 1-3 2-3", "0", "0 2 3", "1 exit 0, 1 exit 3"},
		{"linked by places", "0 1 2 3 4", "0-2 1-2 2-3 2-4", "2", "2 0 1 3 4", ""},
		{"linked by places, some trap", "0! 1 2 3! 4", "0-2 1-2 2-3 2-4", "2", "2 1 4", "0 exit 2, 3 exit 2"},
		{"by places, not by Gens", "0.9 1.5 2 3.7 4.2", "0.9-2 1.5-2 2-3.7 2-4.2", "2", "2 0.9 1.5 3.7 4.2", ""},
		{"those of the first ahead of those of the second", "0 1 2 3 4 5", "0-4 0-5 1-4 2-5 3-4", "0", "0 4 5 1 3 2", ""},
		{"who dies earlier tells earlier", "0 1 2 3! 4!", "0-1 0-2 1-4 2-3", "0", "0 1 2", "4 exit 1, 3 exit 2"},
		{"linked with two who died", "0 1 2", "0-1 0-2 1-2", "0", "0 1 2", ""},
		{"linked with two who died, and traps", "0 1 2!", "0-1 0-2 1-2", "0", "0 1", "2 exit 0, 2 exit 1"},
		{"linked with three who died, and traps", "0! 1 2 3", "0-1 0-2 0-3 1-2 1-3 2-3", "2", "2 1 3", "0 exit 2, 0 exit 1, 0 exit 3"},
		{"the first one traps, is killed, and linked with who dies", "0! 1 2", "0-1 0-2 1-2", "0", "0 1 2", ""},
		{"two who are not linked with the first one", "0 1 2 3", "0-1 2-3", "0", "0 1", ""},
		{"watched", "0 1", "5:1>0", "0", "0", "1 down 5 0"},
		{"watched by one that traps", "0 1!", "5:1>0", "0", "0", "1 down 5 0"},
		{"who watches dies", "0 1", "5:0>1", "0", "0", ""},
		{"both watch", "0 1", "5:0>1 6:1>0", "0", "0", "1 down 6 0"},
		{"watches and is linked", "0 1", "0-1 5:1>0", "0", "0 1", ""},
		{"watches, is linked and traps", "0 1!", "0-1 5:1>0", "0", "0", "1 exit 0, 1 down 5 0"},
		{"watches itself", "0 1", "5:0>0", "0", "0", ""},
		{"watches itself, and another one", "0 1", "5:0>0 6:0>1 7:1>1 8:1>0", "0", "0", "1 down 8 0"},
		{"watches by two refs", "0 1", "5:1>0 6:1>0", "0", "0", "1 down 5 0, 1 down 6 0"},
		{"by refs, not by places", "0 1 2 3", "5:3>1 6:0>1 8:2>1 9:0>1", "1", "1", "3 down 5 1, 0 down 6 1, 2 down 8 1, 0 down 9 1"},
		{"of each who died by itself", "0 1 2", "0-1 5:2>1 6:2>0 7:2>1 8:2>0", "0", "0 1", "2 down 6 0, 2 down 8 0, 2 down 5 1, 2 down 7 1"},
		{"exits ahead of downs of one, behind those of the one ahead", "0 1 2! 3!", "0-1 0-3 1-2 5:2>1 6:3>0 7:2>0", "0", "0 1", "3 exit 0, 3 down 6 0, 2 down 7 0, 2 exit 1, 2 down 5 1"},
		{"monitors of who died, and of who did not", "0 1 2! 3", "0-1 1-2 5:3>0 6:3>1 7:3>2 8:3>3", "0", "0 1", "3 down 5 0, 2 exit 1, 3 down 6 1"},
		{"watches and dies later on", "0 1 2", "0-1 1-2 5:2>0 6:1>0", "0", "0 1 2", ""},
		{"watches, and dies later on by another way", "0 1 2 3", "0-1 1-2 5:2>0 6:3>0 7:2>1 8:3>2", "0", "0 1 2", "3 down 6 0, 3 down 8 2"},
		{"watches one who died ahead of it, and one behind", "0 1 2 3", "0-1 1-2 2-3 5:1>0 6:1>3 7:3>0", "0", "0 1 2 3", ""},
		{"watches two, and lives", "0 1 2", "0-1 5:2>0 6:2>1", "0", "0 1", "2 down 5 0, 2 down 6 1"},
		{"who is watched lives", "0 1 2", "5:0>2 6:1>2", "0", "0", ""},
		{"chain", "0 1 2 3 4", "0-1 1-2 2-3 3-4", "2", "2 1 3 0 4", ""},
		{"chain with one that traps", "0 1 2 3! 4", "0-1 1-2 2-3 3-4", "1", "1 0 2", "3 exit 2"},
		{"chain whose first one traps", "0! 1 2 3! 4", "0-1 1-2 2-3 3-4", "0", "0 1 2", "3 exit 2"},
		{"ring", "0 1 2 3 4", "0-1 0-4 1-2 2-3 3-4", "2", "2 1 3 0 4", ""},
		{"ring with one that traps", "0 1! 2 3 4", "0-1 0-4 1-2 2-3 3-4", "2", "2 3 4 0", "1 exit 2, 1 exit 0"},
		{"ring with two that trap", "0! 1 2! 3 4", "0-1 0-4 1-2 2-3 3-4", "4", "4 3", "0 exit 4, 2 exit 3"},
		{"star from within", "0 1! 2 3 4!", "0-2 1-2 2-3 2-4", "2", "2 0 3", "1 exit 2, 4 exit 2"},
		{"star from without", "0 1! 2 3 4!", "0-2 1-2 2-3 2-4", "3", "3 2 0", "1 exit 2, 4 exit 2"},
		{"star whose middle traps", "0 1 2! 3 4", "0-2 1-2 2-3 2-4", "3", "3", "2 exit 3"},
		{"all with all, two trap", "0 1! 2 3 4!", "0-1 0-2 0-3 0-4 1-2 1-3 1-4 2-3 2-4 3-4", "2", "2 0 3", "1 exit 2, 4 exit 2, 1 exit 0, 4 exit 0, 1 exit 3, 4 exit 3"},
		{"all with all, all trap", "0! 1! 2! 3!", "0-1 0-2 0-3 1-2 1-3 2-3", "3", "3", "0 exit 3, 1 exit 3, 2 exit 3"},
		{"all with all, none traps", "0 1 2 3", "0-1 0-2 0-3 1-2 1-3 2-3", "2", "2 0 1 3", ""},
		{"at the ends of the table", "0.3 255.7!", "0.3-255.7 1:255.7>0.3", "0.3", "0.3", "255.7 exit 0.3, 255.7 down 1 0.3"},
	} {
		wantCascade(t, world{folk(x.lives), tied(x.ties), who(x.first), atom("oops"), true}, x.deaths, x.posts)
	}
}

// Whoever is not among lives has no part: nobody dies by it, nothing goes on by it, it is told nothing.
func TestP162TiesOfThoseWhoAreNotAlive(t *testing.T) {
	for _, x := range []struct {
		what, lives, ties, first, deaths, posts string
	}{
		{"linked with nobody", "0", "0-1", "0", "0", ""},
		{"linked with nobody from behind", "1", "0-1", "1", "1", ""},
		{"no way by nobody", "0 2", "0-1 1-2", "0", "0", ""},
		{"nobody watches", "0", "5:1>0", "0", "0", ""},
		{"nobody is watched", "0", "5:0>1 6:1>1", "0", "0", ""},
		{"nobody's ties alone", "0 1!", "2-3 3-4 5:2>3 6:2>2", "0", "0", ""},
		{"linked with the place's other one", "0 1", "0-1.2", "0", "0", ""},
		{"linked with the place's other one, who traps", "0 1!", "0-1.2", "0", "0", ""},
		{"linked with one's own place's other one", "0 1", "0-0.2 0.2-1", "0", "0", ""},
		{"the other one of the place is linked with all", "0 1 2!", "0.2-1 0.2-2", "0", "0", ""},
		{"linked with both of a place", "0 1", "0-1 0-1.2", "0", "0 1", ""},
		{"linked with both of a place, of whom the second is alive", "0 1.2!", "0-1 0-1.2", "0", "0", "1.2 exit 0"},
		{"no way by the place's other one", "0 1 2", "0-1.2 1.2-2", "0", "0", ""},
		{"the place's other one watches", "0 1", "5:1.2>0", "0", "0", ""},
		{"the place's other one is watched", "0 1", "5:1>0.2", "0", "0", ""},
		{"both of a place watch both of a place", "0 1", "5:1.2>0 6:1>0.2 7:1>0 8:1.2>0.2", "0", "0", "1 down 7 0"},
		{"one's own place's other one watches", "0 1", "5:0.2>0 6:0>0.2", "0", "0", ""},
		{"nobody between those who are", "0 2 4!", "0-1 0-2 1-2 1-4 2-3 2-4 3-4 5:1>0 6:3>2 7:4>0 8:3>4", "0", "0 2", "4 down 7 0, 4 exit 2"},
	} {
		wantCascade(t, world{folk(x.lives), tied(x.ties), who(x.first), atom("oops"), true}, x.deaths, x.posts)
	}
}

// Who dies has the reason itself; who is told of it finds toobig, where the message has no room for it.
func TestP162ReasonsThatHaveNoRoom(t *testing.T) {
	toobig := atom("toobig")
	for _, x := range []struct {
		what         string
		reason       api.Term
		exits, downs bool // whether they have room for it
	}{
		{"1020 parts", wide(1020), true, true},
		{"1021 parts", wide(1021), true, false},
		{"1022 parts", wide(1022), false, false},
		{"1024 parts", wide(1024), false, false},
		{"63 deep", deepOf(62, in(1)), true, true},
		{"64 deep", deepOf(63, in(1)), false, false},
	} {
		exit, down := x.reason, x.reason
		if !x.exits {
			exit = toobig
		}
		if !x.downs {
			down = toobig
		}
		w := world{folk("0 1 2! 3"), tied("0-1 0-2 1-2 5:2>1 6:3>0 7:3>3"), pid(0, 1), x.reason, true}
		var posts []api.Post
		posts = append(posts, told("2 exit 0", exit)...)
		posts = append(posts, told("3 down 6 0", down)...)
		posts = append(posts, told("2 exit 1", exit)...)
		posts = append(posts, told("2 down 5 1", down)...)
		wantAnswer(t, w, died("0 1", x.reason), posts)
		ask(t, w)
		w.first, w.kill = pid(2, 1), false
		wantAnswer(t, w, nil, told("2 exit 2", exit))
		ask(t, w)
	}
}

// Each reason goes on as it is.
func TestP162EachReason(t *testing.T) {
	for _, why := range rights() {
		for _, w := range both(world{folk("0 1 2!"), tied("0-1 1-2 5:2>1"), pid(0, 1), why, false}) {
			switch {
			case !same(why, atom("normal")):
				wantAnswer(t, w, died("0 1", why), []api.Post{{To: pid(2, 1), Term: modelExit(pid(1, 1), why)}, {To: pid(2, 1), Term: modelDown(5, pid(1, 1), why)}})
			case w.kill:
				wantAnswer(t, w, died("0", why), nil)
			default:
				wantAnswer(t, w, nil, nil)
			}
			ask(t, w)
		}
	}
}

// row is a text of what is told of each number from a on, below b, by turns.
func row(a, b int, of func(i int) string) string {
	var l []string
	for i := a; i < b; i++ {
		l = append(l, of(i))
	}
	return strings.Join(l, " ")
}

func digits(i int) string { return strconv.Itoa(i) }

// outward are the places about one, up to some on each side, the lower one ahead.
func outward(first, low, high int) string {
	l := []string{digits(first)}
	for k := 1; first-k >= low || first+k <= high; k++ {
		if first-k >= low {
			l = append(l, digits(first-k))
		}
		if first+k <= high {
			l = append(l, digits(first+k))
		}
	}
	return strings.Join(l, " ")
}

// Chains, up to as many as may be alive: from each place on, to both sides, to the ends or to those who trap.
func TestP162Chains(t *testing.T) {
	for _, n := range []int{1, 2, 3, 10, 255, 256} {
		ties := tied(row(0, n-1, func(i int) string { return digits(i) + "-" + digits(i+1) }))
		for _, first := range []int{0, n / 2, n / 3, n - 1} {
			w := world{crowd(n, 0), ties, pid(first, 1), atom("oops"), false}
			wantCascade(t, w, outward(first, 0, n-1), "")
			low, high := first/2-1, first+(n-first)/2+1
			if low < 0 || high >= n {
				continue
			}
			w.lives[low].Trap, w.lives[high].Trap = true, true
			posts := []string{digits(low) + " exit " + digits(low+1), digits(high) + " exit " + digits(high-1)}
			if high-first < first-low {
				posts[0], posts[1] = posts[1], posts[0]
			}
			wantCascade(t, w, outward(first, low+1, high-1), strings.Join(posts, ","))
		}
	}
}

// Rings: both ways round, till they meet.
func TestP162Rings(t *testing.T) {
	for _, n := range []int{3, 4, 9, 10, 255, 256} {
		ties := append(tied("0-1 0-"+digits(n-1)), tied(row(1, n-1, func(i int) string { return digits(i) + "-" + digits(i+1) }))...)
		w := world{crowd(n, 0), ties, pid(0, 1), atom("oops"), false}
		deaths := []string{"0"}
		for k := 1; k <= n/2; k++ {
			deaths = append(deaths, digits(k))
			if n-k > k {
				deaths = append(deaths, digits(n-k))
			}
		}
		wantCascade(t, w, strings.Join(deaths, " "), "")
		w.lives[1].Trap = true
		posts := "1 exit 0, 1 exit 2"
		wantCascade(t, w, "0 "+row(2, n, func(i int) string { return digits(n + 1 - i) }), posts)
	}
}

// Stars: from the middle and from one without; all trap, none does, the middle alone does.
func TestP162Stars(t *testing.T) {
	for _, n := range []int{2, 3, 10, 256} {
		ties := tied(row(1, n, func(i int) string { return "0-" + digits(i) }))
		w := world{crowd(n, 0), ties, pid(0, 1), atom("oops"), true}
		wantCascade(t, w, row(0, n, digits), "")
		w.first = pid(n-1, 1)
		wantCascade(t, w, digits(n-1)+" 0 "+row(1, n-1, digits), "")
		w.lives[0].Trap = true
		wantCascade(t, w, digits(n-1), "0 exit "+digits(n-1))
		for i := range w.lives {
			w.lives[i].Trap = true
		}
		w.first = pid(0, 1)
		wantCascade(t, w, "0", strings.ReplaceAll(row(1, n, func(i int) string { return digits(i) + "_exit_0," }), "_", " "))
	}
}

// All linked with all: the first one, then all others, by their places; each who traps is told of each who dies.
func TestP162AllWithAll(t *testing.T) {
	for _, n := range []int{2, 3, 7, 20, 45} {
		w := world{lives: crowd(n, 0), first: pid(n/2, 1), reason: atom("oops")}
		w.ties = pairs(w.lives)
		all := digits(n/2) + " " + row(0, n/2, digits) + " " + row(n/2+1, n, digits)
		wantCascade(t, w, all, "")
		if n == 2 {
			continue
		}
		w.lives[0].Trap, w.lives[n-1].Trap = true, n > 3
		var deaths, posts []string
		for _, p := range strings.Fields(all) {
			if p == "0" || w.lives[n-1].Trap && p == digits(n-1) {
				continue
			}
			deaths = append(deaths, p)
			posts = append(posts, "0 exit "+p)
			if w.lives[n-1].Trap {
				posts = append(posts, digits(n-1)+" exit "+p)
			}
		}
		wantCascade(t, w, strings.Join(deaths, " "), strings.Join(posts, ","))
	}
}

// As many lives and ties as there may be: links alone, monitors alone, both.
func TestP162AsManyAsMayBe(t *testing.T) {
	all := crowd(256, 0)
	var near []api.Tie // each with the four behind it
	for i := range 256 {
		for k := i + 1; k <= i+4 && k < 256; k++ {
			near = append(near, api.Tie{A: pid(i, 1), B: pid(k, 1)})
		}
	}
	near = append(near, tied("252-255")...)[:len(near)]
	var watch []api.Tie // each watched by four others, or by itself
	for i := range 1024 {
		watch = append(watch, api.Tie{Ref: api.MaxInt - 2*(1024-i), A: pid(i*7%256, 1), B: pid(i%256, 1)})
	}
	for _, ties := range [][]api.Tie{near, watch, append(near[:500:500], watch[:524]...), append(near[:1:1], watch[:1023]...)} {
		for _, every := range []int{0, 2, 3, 50} {
			w := world{all, ties, pid(100, 1), atom("oops"), true}
			if every > 0 {
				w.lives = crowd(256, 0)
				for i := range w.lives {
					w.lives[i].Trap = i%every == 1
				}
			}
			for _, first := range []int{0, 1, 100, 255} {
				w.first = pid(first, 1)
				ask(t, w)
			}
		}
	}
	w := world{all, near, pid(0, 1), atom("oops"), false}
	if d, p, _ := ask(t, w); len(d) != 256 || len(p) > 0 {
		t.Error("who dies of all:", len(d), len(p))
	}
	w.ties = nil
	for i := range 1024 {
		w.ties = append(w.ties, api.Tie{Ref: i + 1, A: pid(255-i%255, 1), B: pid(0, 1)})
	}
	if d, p, _ := ask(t, w); len(d) != 1 || len(p) != 1024 || p[1023].To != pid(252, 1) {
		t.Error("who is told of one:", len(d), len(p))
	}
}

// Four rounds of who is told: as many posts of a great reason as there may be.
func TestP162GreatReasonsOfMany(t *testing.T) {
	w := world{crowd(256, 0), nil, pid(0, 1), wide(1020), true}
	for i := 1; i < 256; i++ {
		w.lives[i].Trap = i > 4
	}
	for a := range 5 {
		for b := a + 1; b < 5; b++ {
			w.ties = append(w.ties, api.Tie{A: pid(a, 1), B: pid(b, 1)})
		}
		for b := 5; b < 105; b++ {
			w.ties = append(w.ties, api.Tie{A: pid(a, 1), B: pid(b, 1)})
		}
	}
	for i := range 500 {
		w.ties = append(w.ties, api.Tie{Ref: i + 1, A: pid(255-i%200, 1), B: pid(i%5, 1)})
	}
	for _, why := range []api.Term{wide(1020), wide(1021), wide(1022), deepOf(62, in(1)), deepOf(63, in(1))} {
		w.reason = why
		d, p, e := w.cascade()
		if e != api.OK || len(d) != 5 || len(p) != 1000 {
			t.Fatal(e, len(d), len(p))
		}
		if deaths, posts := w.second(); !sameAnswer(d, p, deaths, posts) {
			t.Error("another answer by", show(why))
		}
	}
}
