package slice

import (
	"carousel/api"
	"carousel/pattern"
	"carousel/step"
	"carousel/term"
)

// Solo runs a function by itself, with an inbox, for so many slices.
func Solo(m api.Module, fn int, args, inbox []api.Term, slices int) (api.Meaning, api.Errno) {
	x, _, e := solo(m, fn, args, inbox, slices)
	return x, e
}

// Reds is how many reductions a function spends by itself.
func Reds(m api.Module, fn int, args, inbox []api.Term, slices int) (int, api.Errno) {
	_, reds, e := solo(m, fn, args, inbox, slices)
	return reds, e
}

// solo is what comes of an actor by itself, and how many reductions it spends.
func solo(m api.Module, fn int, args, inbox []api.Term, slices int) (api.Meaning, int, api.Errno) {
	s, e := step.Begin(m, fn, args)
	if e != api.OK {
		return api.Meaning{}, 0, e
	}
	for _, t := range inbox {
		if e := term.Check(t); e != api.OK {
			return api.Meaning{}, 0, e
		}
	}
	if !isWithin(slices, 0, api.MaxFuel) {
		return api.Meaning{}, 0, api.ErrArg
	}
	l := lone{inbox: append([]api.Term(nil), inbox...)}
	world := l.world()
	x, reds := api.Meaning{End: api.EndYield}, 0
	for k := 0; k < slices && x.End == api.EndYield; k++ {
		done, left := run(m, s, api.Budget, world)
		reds += done.Reds
		x.End, x.Term = done.End, done.Reason
		if len(left) > 0 {
			x.Term = left[0]
		}
	}
	x.Outs, x.Posts, x.Left = l.outs, l.posts, len(l.inbox)
	return x, reds, api.OK
}

// lone is what the world of an actor by itself keeps: the messages that are left, and what was told and sent.
type lone struct {
	inbox []api.Term
	outs  []api.Term
	posts []api.Post
}

// world answers an actor by itself. Where Reply does not ask for an answer it has none.
func (l *lone) world() func(api.Ask) api.Answer {
	return func(ask api.Ask) api.Answer {
		switch ask.Kind {
		case api.AskRecv:
			return l.receive(ask)
		case api.AskSend:
			l.send(ask)
		case api.AskOut:
			l.tell(ask)
		}
		return api.Answer{Term: told(ask.Kind)}
	}
}

// told is the term by which an actor by itself is answered, of those asks that are always answered alike.
func told(ask int) api.Term {
	switch ask {
	case api.AskSelf:
		return api.Term{Kind: api.KindPid, P: api.Pid{N: 0, Gen: 1}}
	case api.AskNow:
		return api.Term{Kind: api.KindInt}
	case api.AskSpawn, api.AskTimer, api.AskMonitor:
		return api.Term{Kind: api.KindAtom, S: "full"}
	case api.AskCancel, api.AskWhere:
		return api.Term{Kind: api.KindNil}
	case api.AskLink, api.AskUnlink, api.AskDemon, api.AskName:
		return api.Term{Kind: api.KindBool}
	}
	return api.Term{}
}

func (l *lone) tell(ask api.Ask) {
	if len(l.outs) < api.MaxOuts {
		l.outs = append(l.outs, ask.Term)
	}
}

// send posts what goes to a pid: nobody has a name here.
func (l *lone) send(ask api.Ask) {
	if ask.To.Kind == api.KindPid && len(l.posts) < api.MaxOuts {
		l.posts = append(l.posts, api.Post{To: ask.To.P, Term: ask.Term})
	}
}

// receive takes the first message out that matches an arm: those ahead of it close up.
func (l *lone) receive(ask api.Ask) api.Answer {
	at, arm, binds, e := l.first(ask.Arms)
	switch {
	case e == api.OK:
		copy(l.inbox[1:], l.inbox[:at])
		l.inbox = l.inbox[1:]
		return api.Answer{Is: true, Arm: arm, Binds: binds}
	case ask.Wait == -1:
		return api.Answer{}
	}
	return api.Answer{Is: true, Arm: -1}
}

// first is layer 5's First of the inbox. First looks through all that it is given, whether that may be, so it is given a part of the inbox at a time, each twice as long as the one ahead: what stands near the head is found soon, however many messages there are.
func (l *lone) first(arms []api.Arm) (at, arm int, binds []api.Bind, e api.Errno) {
	var ps []api.Pattern
	for _, x := range arms {
		ps = append(ps, x.Pattern)
	}
	for from, n := 0, 1; from < len(l.inbox); from, n = from+n, 2*n {
		part := l.inbox[from:min(from+n, len(l.inbox))]
		if at, arm, binds, e := pattern.First(part, 0, ps); e == api.OK {
			return from + at, arm, binds, api.OK
		}
	}
	return 0, 0, nil, api.ErrNone
}
