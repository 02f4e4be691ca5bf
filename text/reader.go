package text

import (
	"carousel/api"
	"carousel/term"
)

// What can stand next, by what a reader has taken.
const (
	start  = iota // a term
	opened        // a term, or the sign that ends the tuple or list that was just begun
	filled        // a comma, or the sign that ends the innermost one
	whole         // nothing
)

// reader makes a term of tokens. The tuples and lists that are begun stand in a list of its own, not in calls: a text may begin far more of them than a term may have in one another, and its faults are told all the same.
type reader struct {
	state int
	begun []api.Term
	t     api.Term
}

// take goes on by a token, if it can stand there.
func (r *reader) take(token string) bool {
	switch token {
	case "{":
		return r.begin(api.KindTuple)
	case "[":
		return r.begin(api.KindList)
	case "}":
		return r.end(api.KindTuple)
	case "]":
		return r.end(api.KindList)
	case ",":
		return r.comma()
	}
	if r.state > opened {
		return false
	}
	t, ok := leaf(token)
	if ok {
		r.put(t)
	}
	return ok
}

func (r *reader) begin(kind int) bool {
	if r.state > opened {
		return false
	}
	r.begun = append(r.begun, api.Term{Kind: kind})
	r.state = opened
	return true
}

func (r *reader) end(kind int) bool {
	last := len(r.begun) - 1
	if r.state != opened && r.state != filled || r.begun[last].Kind != kind {
		return false
	}
	t := r.begun[last]
	r.begun = r.begun[:last]
	r.put(t)
	return true
}

func (r *reader) comma() bool {
	if r.state != filled {
		return false
	}
	r.state = start
	return true
}

// put lays a whole term into the innermost tuple or list, or, if none is begun, takes it as what was read.
func (r *reader) put(t api.Term) {
	if len(r.begun) == 0 {
		r.t = t
		r.state = whole
		return
	}
	in := &r.begun[len(r.begun)-1]
	in.L = append(in.L, t)
	r.state = filled
}

// answer is what was read, if it has not too many parts: all else was seen token by token.
func (r *reader) answer() (api.Term, api.Errno) {
	if e := term.Check(r.t); e != api.OK {
		return api.Term{}, e
	}
	return r.t, api.OK
}
