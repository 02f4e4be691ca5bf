package text

import (
	"strconv"
	"strings"

	"carousel/api"
	"carousel/term"
)

// leaf is the term that a token is by itself; false, if it is none.
func leaf(token string) (api.Term, bool) {
	t, ok := meant(token)
	return t, ok && term.Check(t) == api.OK
}

// meant is what a token says, whether a term may be so or not.
func meant(token string) (api.Term, bool) {
	switch {
	case isSmall(rune(token[0])):
		return wordTerm(token), true
	case token[0] == '<':
		return pidTerm(token)
	case token[0] == '#':
		n, ok := number(token[1:])
		return api.Term{Kind: api.KindRef, N: n}, ok
	case strings.HasSuffix(token, "i"):
		return complexTerm(token)
	}
	n, ok := number(token)
	return api.Term{Kind: api.KindInt, N: n}, ok
}

func wordTerm(word string) api.Term {
	switch word {
	case "nil":
		return api.Term{Kind: api.KindNil}
	case "true":
		return api.Term{Kind: api.KindBool, N: 1}
	case "false":
		return api.Term{Kind: api.KindBool}
	}
	// A piece of the text would keep the whole of it.
	return api.Term{Kind: api.KindAtom, S: strings.Clone(word)}
}

// pidTerm is a pid's token, `<N.Gen>`, or a `<` that begins none.
func pidTerm(token string) (api.Term, bool) {
	place, gen, _ := strings.Cut(strings.TrimSuffix(token[1:], ">"), ".")
	n, ok := number(place)
	g, both := number(gen)
	return api.Term{Kind: api.KindPid, P: api.Pid{N: n, Gen: g}}, ok && both
}

// complexTerm is a token of a number, a sign, digits and an i.
func complexTerm(token string) (api.Term, bool) {
	body := strings.TrimSuffix(token, "i")
	sign := strings.LastIndexAny(body, "+-")
	re, ok := number(body[:sign])
	im, both := number(strings.TrimPrefix(body[sign:], "+"))
	t, e := term.Complex(re, im)
	return t, ok && both && e == api.OK
}

// number is a number in just the form in which numbers are written: what is written in another way is not read.
func number(s string) (int, bool) {
	n, err := strconv.Atoi(s)
	return n, err == nil && strconv.Itoa(n) == s
}
