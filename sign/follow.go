package sign

import (
	"slices"

	"carousel/api"
)

// follow is what comes of a first one's signal, if all that is handed in may be.
func follow(lives []api.Life, ties []api.Tie, first api.Pid, reason api.Term, kill bool) ([]api.Death, []api.Post) {
	var deaths []api.Death
	var posts []api.Post
	dead := make([]bool, len(lives))
	tell := func(to api.Pid, message api.Term) {
		posts = append(posts, api.Post{To: to, Term: message})
	}
	signal := func(to, from api.Pid, reason api.Term, kill bool) {
		i := find(lives, to)
		if i < 0 || dead[i] {
			return
		}
		if falls, why := Falls(lives[i].Trap, reason, kill); falls {
			dead[i] = true
			deaths = append(deaths, api.Death{Pid: to, Reason: why})
		} else if lives[i].Trap {
			tell(to, Exit(from, reason))
		}
	}
	signal(first, first, reason, kill)
	// Whoever falls meanwhile stands at the end of the list, and is come to from there.
	for i := 0; i < len(deaths); i++ {
		d := deaths[i]
		linked := func(p api.Pid) { signal(p, d.Pid, d.Reason, false) }
		watched := func(m api.Tie) {
			if find(lives, m.A) >= 0 {
				tell(m.A, Down(m.Ref, d.Pid, d.Reason))
			}
		}
		eachTied(ties, d.Pid, linked, watched)
	}
	// Who watches may die behind what it was to be told: only in the end it is known who is left.
	return deaths, slices.DeleteFunc(posts, func(x api.Post) bool { return dead[find(lives, x.To)] })
}

// eachTied hands on each who is linked with one, then each monitor that watches it. It need not put them in order: of ties that stand by A, then B, the links with it as B, by A, come ahead of those with it as A, by B.
func eachTied(ties []api.Tie, p api.Pid, linked func(api.Pid), watched func(api.Tie)) {
	for _, x := range ties {
		switch {
		case x.Ref != 0 && x.B == p:
			watched(x)
		case x.Ref == 0 && x.B == p:
			linked(x.A)
		case x.Ref == 0 && x.A == p:
			linked(x.B)
		}
	}
}
