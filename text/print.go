package text

import (
	"strconv"
	"strings"

	"carousel/api"
	"carousel/term"
)

// kindNames holds each kind's name in the kind's own place.
var kindNames = [...]string{
	api.KindNil:     "nil",
	api.KindBool:    "bool",
	api.KindInt:     "int",
	api.KindComplex: "complex",
	api.KindAtom:    "atom",
	api.KindPid:     "pid",
	api.KindRef:     "ref",
	api.KindTuple:   "tuple",
	api.KindList:    "list",
}

// Kind is a kind's name.
func Kind(kind int) (string, api.Errno) {
	if kind < api.KindNil || kind > api.KindList {
		return "", api.ErrNone
	}
	return kindNames[kind], api.OK
}

// KindOf is the kind of a name.
func KindOf(s string) (int, api.Errno) {
	for kind := api.KindNil; kind <= api.KindList; kind++ {
		if kindNames[kind] == s {
			return kind, api.OK
		}
	}
	return 0, api.ErrNone
}

// Print is a term's text.
func Print(t api.Term) (string, api.Errno) {
	if e := term.Check(t); e != api.OK {
		return "", e
	}
	var b strings.Builder
	write(&b, t)
	return b.String(), api.OK
}

// write tells a term that may be: so it stands within few others, and holds itself nowhere.
func write(b *strings.Builder, t api.Term) {
	switch t.Kind {
	case api.KindTuple:
		writeAll(b, "{", t.L, "}")
	case api.KindList:
		writeAll(b, "[", t.L, "]")
	default:
		b.WriteString(leafText(t))
	}
}

func writeAll(b *strings.Builder, begin string, l []api.Term, end string) {
	b.WriteString(begin)
	for i, t := range l {
		if i > 0 {
			b.WriteString(", ")
		}
		write(b, t)
	}
	b.WriteString(end)
}

// leafText is the text of a term that has no others in it.
func leafText(t api.Term) string {
	switch t.Kind {
	case api.KindBool:
		return strconv.FormatBool(t.N == 1)
	case api.KindInt:
		return strconv.Itoa(t.N)
	case api.KindComplex:
		return complexText(t.C)
	case api.KindAtom:
		return t.S
	case api.KindPid:
		return "<" + strconv.Itoa(t.P.N) + "." + strconv.Itoa(t.P.Gen) + ">"
	case api.KindRef:
		return "#" + strconv.Itoa(t.N)
	}
	return "nil"
}

// complexText goes by way of ints: the parts are whole, and are to be told as ints are.
func complexText(c complex128) string {
	re, im := int(real(c)), int(imag(c))
	sign := "+"
	if im < 0 {
		sign = "" // the number brings its own
	}
	return strconv.Itoa(re) + sign + strconv.Itoa(im) + "i"
}
