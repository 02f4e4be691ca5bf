package table

import (
	"strings"

	"carousel/api"
)

// Name names one.
func (t *Table) Name(p api.Pid, name string) api.Errno {
	if !t.given() || !isAtom(name) {
		return api.ErrArg
	}
	x := t.find(p)
	if x == nil {
		return api.ErrNone
	}
	if _, taken := t.names[name]; taken || x.name != "" {
		return api.ErrTaken
	}
	// The name may be a piece of a long text, which is not to be kept with it.
	x.name = strings.Clone(name)
	t.names[x.name] = p
	return api.OK
}

// Where is who has a name.
func (t *Table) Where(name string) (api.Pid, api.Errno) {
	if !t.given() {
		return api.Pid{}, api.ErrArg
	}
	p, there := t.names[name]
	if !there {
		return api.Pid{}, api.ErrNone
	}
	return p, api.OK
}

// NameOf is one's name.
func (t *Table) NameOf(p api.Pid) string {
	x := t.find(p)
	if x == nil {
		return ""
	}
	return x.name
}

func isAtom(s string) bool {
	switch s {
	case "", "nil", "true", "false":
		return false
	}
	if len(s) > api.MaxAtom || !isSmall(s[0]) {
		return false
	}
	for i := range len(s) {
		if !mayGoOn(s[i]) {
			return false
		}
	}
	return true
}

// mayGoOn tells whether a byte may stand in an atom behind its first letter.
func mayGoOn(b byte) bool {
	return isSmall(b) || b >= 'A' && b <= 'Z' || b >= '0' && b <= '9' || b == '_'
}

func isSmall(b byte) bool { return b >= 'a' && b <= 'z' }
