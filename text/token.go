package text

import (
	"iter"
	"strings"
)

// tokens are a text's tokens, each with its place. What stands behind the last one that is asked for is not looked at.
func tokens(s string) iter.Seq2[int, string] {
	return func(yield func(int, string) bool) {
		end := 0
		for at, first := range s {
			if at < end || isBlank(first) {
				continue
			}
			end = at + width(s[at:], first)
			if !yield(at, s[at:end]) {
				return
			}
		}
	}
}

// width is how many bytes the token has that s begins with. It hangs on the bytes alone: whether the token can stand anywhere is asked of the whole of it.
func width(s string, first rune) int {
	switch {
	case isSmall(first):
		return run(s, isWord)
	case isDigit(first) || first == '-':
		return numberWidth(s)
	case first == '<':
		return pidWidth(s)
	case first == '#':
		return 1 + run(s[1:], isDigit)
	}
	return 1
}

// numberWidth is a number's, with its other part, if it has one.
func numberWidth(s string) int {
	n := 1 + run(s[1:], isDigit)
	if s[:n] == "-" {
		return n
	}
	return n + otherWidth(s[n:])
}

// otherWidth is how many bytes a sign, digits and an i at the beginning of s have; 0, if one of them is not there: then the number ends ahead of them.
func otherWidth(s string) int {
	if !strings.HasPrefix(s, "+") && !strings.HasPrefix(s, "-") {
		return 0
	}
	n := 1 + run(s[1:], isDigit)
	if n == 1 || !strings.HasPrefix(s[n:], "i") {
		return 0
	}
	return n + 1
}

// pidWidth is a pid's; 1, if what begins with the sign is none.
func pidWidth(s string) int {
	n := 1 + run(s[1:], isDigit)
	if !strings.HasPrefix(s[n:], ".") {
		return 1
	}
	n += 1 + run(s[n+1:], isDigit)
	if !strings.HasPrefix(s[n:], ">") {
		return 1
	}
	return n + 1
}

// run is how many bytes of s stand ahead of the first rune that is not such a one.
func run(s string, is func(rune) bool) int {
	for at, r := range s {
		if !is(r) {
			return at
		}
	}
	return len(s)
}

func isBlank(r rune) bool { return r == ' ' || r == '\t' || r == '\n' || r == '\r' }

func isSmall(r rune) bool { return r >= 'a' && r <= 'z' }

func isDigit(r rune) bool { return r >= '0' && r <= '9' }

func isWord(r rune) bool { return isSmall(r) || isDigit(r) || r >= 'A' && r <= 'Z' || r == '_' }
