package box

import (
	"carousel/api"
	"carousel/pattern"
)

// lane is one of a box's: its messages, the eldest first, and its mark.
type lane struct {
	messages []api.Term
	mark     int
}

// first is layer 5's First of the messages from the mark on. First looks through all that it is given, whether that may be, so it is given a part of them at a time, each twice as long as the one ahead: what stands near the mark is found soon, however many messages there are.
func (l *lane) first(ps []api.Pattern) (at, arm int, binds []api.Bind, e api.Errno) {
	for from, n := l.mark, 1; from < len(l.messages); from, n = from+n, 2*n {
		part := l.messages[from:min(from+n, len(l.messages))]
		if at, arm, binds, e := pattern.First(part, 0, ps); e == api.OK {
			return from + at, arm, binds, api.OK
		}
	}
	return 0, 0, nil, api.ErrNone
}

// take takes a message out: those behind it close up. The place that is left behind them is wiped, as the lane is not to keep what has gone out.
func (l *lane) take(at int) api.Term {
	t := l.messages[at]
	copy(l.messages[at:], l.messages[at+1:])
	last := len(l.messages) - 1
	l.messages[last] = api.Term{}
	l.messages = l.messages[:last]
	return t
}

func copied(l []api.Term) []api.Term { return append([]api.Term(nil), l...) }
