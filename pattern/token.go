package pattern

import (
	"carousel/api"
	"carousel/text"
)

// leaf is the pattern that the token is with which s begins, and how many bytes that has; false, if it can stand nowhere. Layer 4 reads all tokens that are terms.
func leaf(s string) (api.Pattern, int, bool) {
	switch s[0] {
	case '_':
		return api.Pattern{Kind: api.PatAny}, 1, true
	case '$':
		return local(s)
	case ':':
		return kind(s)
	}
	t, width, e := text.Head(s)
	return api.Pattern{Kind: api.PatTerm, Term: t}, width, e == api.OK
}

// local is a sign and digits. Of digits layer 4 takes just those that are a number.
func local(s string) (api.Pattern, int, bool) {
	width := 1 + run(s[1:], isDigit)
	t, e, _ := text.Parse(s[1:width])
	return api.Pattern{Kind: api.PatVar, N: t.N}, width, e == api.OK && t.N < api.MaxLocals
}

// kind is a sign and a word. The word is taken whole: one that goes on behind a kind's name is none.
func kind(s string) (api.Pattern, int, bool) {
	width := 1 + run(s[1:], isWord)
	n, e := text.KindOf(s[1:width])
	return api.Pattern{Kind: api.PatKind, N: n}, width, e == api.OK
}

// run is how many bytes of s stand ahead of the first one that is not such a one.
func run(s string, is func(byte) bool) int {
	for at := range len(s) {
		if !is(s[at]) {
			return at
		}
	}
	return len(s)
}

func isBlank(b byte) bool { return b == ' ' || b == '\t' || b == '\n' || b == '\r' }

func isDigit(b byte) bool { return b >= '0' && b <= '9' }

func isWord(b byte) bool {
	return isDigit(b) || b >= 'a' && b <= 'z' || b >= 'A' && b <= 'Z' || b == '_'
}
