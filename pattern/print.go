package pattern

import (
	"strconv"
	"strings"

	"carousel/api"
	"carousel/text"
)

// Print is a pattern's text.
func Print(p api.Pattern) (string, api.Errno) {
	if e := Check(p, api.MaxLocals); e != api.OK {
		return "", e
	}
	var b strings.Builder
	write(&b, p)
	// As the limits stand now no pattern that may be has so long a text.
	if b.Len() > api.MaxText {
		return "", api.ErrLong
	}
	return b.String(), api.OK
}

// write tells a pattern that may be: so it stands within few others, and holds itself nowhere.
func write(b *strings.Builder, p api.Pattern) {
	switch p.Kind {
	case api.PatTuple:
		b.WriteString("{")
		writeAll(b, p.L)
		b.WriteString("}")
	case api.PatList:
		b.WriteString("[")
		writeAll(b, p.L)
		writeRest(b, p)
		b.WriteString("]")
	default:
		b.WriteString(leafText(p))
	}
}

func writeAll(b *strings.Builder, l []api.Pattern) {
	for i, p := range l {
		if i > 0 {
			b.WriteString(", ")
		}
		write(b, p)
	}
}

func writeRest(b *strings.Builder, p api.Pattern) {
	if len(p.Rest) == 0 {
		return
	}
	if len(p.L) > 0 {
		b.WriteString(" ")
	}
	b.WriteString("| ")
	write(b, p.Rest[0])
}

// leafText is the text of a pattern that has no others in it. It may be, so its term and its kind have texts.
func leafText(p api.Pattern) string {
	switch p.Kind {
	case api.PatVar:
		return "$" + strconv.Itoa(p.N)
	case api.PatTerm:
		s, _ := text.Print(p.Term)
		return s
	case api.PatKind:
		s, _ := text.Kind(p.N)
		return ":" + s
	}
	return "_"
}
