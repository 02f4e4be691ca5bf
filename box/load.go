package box

import (
	"carousel/api"
	"carousel/term"
)

// Load is the box of two lanes and their marks.
func Load(system, user []api.Term, marks [2]int) (*Box, api.Errno) {
	lanes := [2]lane{{system, marks[api.LaneSystem]}, {user, marks[api.LaneUser]}}
	if e := check(lanes); e != api.OK {
		return nil, e
	}
	return of(lanes), api.OK
}

// Copy is a box as this one is now.
func (b *Box) Copy() *Box {
	if !b.given() {
		return nil
	}
	return of(b.lanes)
}

// of is the box of two lanes that may be, in memory of its own.
func of(lanes [2]lane) *Box {
	b := New()
	for i, l := range lanes {
		b.lanes[i] = lane{copied(l.messages), l.mark}
	}
	return b
}

// check tells whether two lanes may be a box's. Each kind of error is asked for in both ahead of the next kind.
func check(lanes [2]lane) api.Errno {
	for _, l := range lanes {
		if len(l.messages) > api.MaxMail {
			return api.ErrMail
		}
	}
	for _, l := range lanes {
		for _, t := range l.messages {
			if e := term.Check(t); e != api.OK {
				return e
			}
		}
	}
	for _, l := range lanes {
		if l.mark < 0 || l.mark > len(l.messages) {
			return api.ErrArg
		}
	}
	return api.OK
}
