package pattern

import "carousel/api"

// Parse is the pattern of a text.
func Parse(s string) (p api.Pattern, e api.Errno, at int) {
	if len(s) > api.MaxText {
		return api.Pattern{}, api.ErrLong, 0
	}
	defer func() {
		if x := recover(); x != nil {
			p, e, at = api.Pattern{}, api.ErrPattern, placeOf(x)
		}
	}()
	r := reader{s: s}
	p = r.read()
	if e = Check(p, api.MaxLocals); e != api.OK {
		return api.Pattern{}, e, 0
	}
	return p, api.OK, 0
}

// giveUp is what a reader panics with: the place of the token that can not stand there.
type giveUp int

// placeOf is where a reader gave up. What is no such thing is no fault of the text, and goes on as a panic.
func placeOf(x any) int { return int(x.(giveUp)) }

// What can stand next, by what a reader has taken.
const (
	start  = iota // a pattern
	opened        // a pattern, or what may stand behind one, but for a comma: a tuple or list was just begun
	filled        // a comma, the sign that ends the innermost tuple or list, or, in a list, the one ahead of its rest
	rested        // the sign that ends the innermost list
	whole         // nothing
)

// reader makes a pattern of a text. The tuples and lists that are begun stand in a list of its own, not in calls: a text may begin far more of them than a pattern may have in one another, and its faults are told all the same.
type reader struct {
	s     string
	at    int // of the token that is looked at
	state int
	begun []begun
	p     api.Pattern
}

// begun is a tuple or a list that goes on, and whether the sign ahead of its rest was there.
type begun struct {
	p      api.Pattern
	barred bool
}

// read gives up at the end, too, if that comes too early.
func (r *reader) read() api.Pattern {
	for r.skip(); r.at < len(r.s); r.skip() {
		r.at += r.take(r.s[r.at:])
	}
	r.need(r.state == whole)
	return r.p
}

func (r *reader) skip() { r.at += run(r.s[r.at:], isBlank) }

// need gives up, if the token can not stand where it does.
func (r *reader) need(ok bool) {
	if !ok {
		panic(giveUp(r.at))
	}
}

// take goes on by the token that s begins with, and answers how many bytes it has.
func (r *reader) take(s string) int {
	switch s[0] {
	case '{':
		r.begin(api.PatTuple)
	case '[':
		r.begin(api.PatList)
	case '}':
		r.end(api.PatTuple)
	case ']':
		r.end(api.PatList)
	case ',':
		r.comma()
	case '|':
		r.bar()
	default:
		return r.single(s)
	}
	return 1
}

func (r *reader) single(s string) int {
	p, width, ok := leaf(s)
	r.need(ok && r.state <= opened)
	r.put(p)
	return width
}

func (r *reader) begin(kind int) {
	r.need(r.state <= opened)
	r.begun = append(r.begun, begun{p: api.Pattern{Kind: kind}})
	r.state = opened
}

func (r *reader) end(kind int) {
	r.need(r.state != start && r.isIn(kind))
	last := len(r.begun) - 1
	p := r.begun[last].p
	r.begun = r.begun[:last]
	r.put(p)
}

func (r *reader) comma() {
	r.need(r.state == filled)
	r.state = start
}

func (r *reader) bar() {
	r.need((r.state == opened || r.state == filled) && r.isIn(api.PatList))
	r.begun[len(r.begun)-1].barred = true
	r.state = start
}

// isIn tells whether the innermost one that goes on is of a kind.
func (r *reader) isIn(kind int) bool {
	n := len(r.begun)
	return n > 0 && r.begun[n-1].p.Kind == kind
}

// put lays a whole pattern into the innermost tuple or list, or, if none goes on, takes it as what was read.
func (r *reader) put(p api.Pattern) {
	if len(r.begun) == 0 {
		r.p = p
		r.state = whole
		return
	}
	in := &r.begun[len(r.begun)-1]
	if in.barred {
		in.p.Rest = []api.Pattern{p}
		r.state = rested
		return
	}
	in.p.L = append(in.p.L, p)
	r.state = filled
}
