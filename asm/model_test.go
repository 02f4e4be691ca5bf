package asm_test

import (
	"fmt"
	"reflect"
	"regexp"
	"slices"
	"strconv"
	"strings"
	"testing"

	"carousel/api"
	"carousel/asm"
	"carousel/code"
	"carousel/pattern"
	"carousel/text"
)

// The model reads and writes as the document says it, by forms of whole lines, to hold the package against. Terms and patterns are read and written by the layers 4 and 5.

var (
	blanks   = `[ \t\r]`
	word     = `([^ \t\r]+)`
	simple   = regexp.MustCompile(`\A` + blanks + `*` + word + `((?:` + blanks + `+` + word + `)*)` + blanks + `*\z`)
	pushForm = regexp.MustCompile(`(?s)\A` + blanks + `*push` + blanks + `(.*)\z`)
	armForm  = regexp.MustCompile(`\A` + blanks + `*(match|recv)((?:` + blanks + `+-?[0-9]+)+)((?:` + blanks + `+\?.*)?)` + blanks + `*\z`)
	number   = regexp.MustCompile(`\A(0|-?[1-9][0-9]*)\z`)
)

// modelNumber is a number by R6.
func modelNumber(s string) (int, bool) {
	n, err := strconv.ParseInt(s, 10, 64)
	return int(n), err == nil && number.MatchString(s) && n >= -(1<<62-1) && n <= 1<<62-1
}

func modelOperand(s string) (int, bool) {
	n, ok := modelNumber(s)
	return n, ok && n >= -1 && n <= 1<<20
}

func split(s string) []string {
	return strings.FieldsFunc(s, func(r rune) bool { return strings.ContainsRune(" \t\r\n", r) })
}

// modelInstr is the instruction of a text.
func modelInstr(s string) (api.Instr, bool) {
	if strings.ContainsAny(s, "\n;") {
		return api.Instr{}, false
	}
	if m := pushForm.FindStringSubmatch(s); m != nil {
		x, e, _ := text.Parse(m[1])
		return push(x), e == api.OK
	}
	if m := armForm.FindStringSubmatch(s); m != nil {
		l, ok := modelArms(strings.Trim(m[3], " \t\r"))
		i, both := modelPlain(m[1] + m[2])
		i.Arms = l
		return i, ok && both
	}
	if !simple.MatchString(s) {
		return api.Instr{}, false
	}
	i, ok := modelPlain(s)
	return i, ok && i.Op != api.OpMatch && i.Op != api.OpRecv
}

// modelPlain reads an instruction of nothing but words.
func modelPlain(s string) (api.Instr, bool) {
	l := split(s)
	i := api.Instr{Op: opOf(l[0])}
	if i.Op == api.OpKind && len(l) == 2 {
		i.A = 1 + slices.Index([]string{"nil", "bool", "int", "complex", "atom", "pid", "ref", "tuple", "list"}, l[1])
		return i, i.A > 0
	}
	fields := strings.Trim(has(i.Op), "R")
	if i.Op == 0 || i.Op == api.OpKind || i.Op == api.OpPush || len(l) != 1+len(fields) {
		return api.Instr{}, false
	}
	var n [2]int
	for k := range fields {
		var ok bool
		if n[k], ok = modelOperand(l[1+k]); !ok {
			return api.Instr{}, false
		}
	}
	i.A, i.B = n[0], n[1]
	return i, true
}

// modelArms takes an arm's sign, its pattern up to the next arrow, its To up to the next sign.
func modelArms(s string) ([]api.Arm, bool) {
	var l []api.Arm
	for s != "" {
		arrow := strings.Index(s, "->")
		if arrow < 0 {
			return nil, false
		}
		p, e, _ := pattern.Parse(s[1:arrow])
		to := s[arrow+2:]
		if end := strings.Index(to, "?"); end >= 0 {
			to, s = to[:end], to[end:]
		} else {
			s = ""
		}
		n, ok := modelOperand(strings.Trim(to, " \t\r"))
		if e != api.OK || !ok {
			return nil, false
		}
		l = append(l, arm(p, n))
	}
	return l, len(l) <= 32
}

// modelParse reads a module.
func modelParse(s string) (api.Module, api.Errno, int) {
	var m api.Module
	place, lines := 0, 0
	for _, whole := range strings.SplitAfter(s, "\n") {
		line, _, _ := strings.Cut(strings.TrimSuffix(whole, "\n"), ";")
		at := place + len(line) - len(strings.TrimLeft(line, " \t\r"))
		place += len(whole)
		if l := split(line); len(l) > 0 {
			lines++
			if !modelLine(&m, lines, l, line) {
				return api.Module{}, api.ErrAsm, at
			}
		}
	}
	if lines == 0 {
		return api.Module{}, api.ErrAsm, len(s)
	}
	if e, _, _ := code.Check(m); e != api.OK {
		return api.Module{}, e, 0
	}
	return m, api.OK, 0
}

func modelLine(m *api.Module, number int, l []string, line string) bool {
	last := len(m.Funcs) - 1
	switch {
	case number == 1:
		m.Name = l[len(l)-1]
		return len(l) == 2 && l[0] == "module"
	case l[0] == "func":
		if len(l) != 4 {
			return false
		}
		params, ok := modelNumber(l[2])
		locals, both := modelNumber(l[3])
		m.Funcs = append(m.Funcs, fun(l[1], params, locals))
		return ok && both
	case last < 0:
		return false
	}
	i, ok := modelInstr(line)
	m.Funcs[last].Code = append(m.Funcs[last].Code, i)
	return ok
}

// modelText is an instruction's text.
func modelText(i api.Instr) string {
	switch i.Op {
	case api.OpPush:
		s, _ := text.Print(i.Term)
		return "push " + s
	case api.OpKind:
		return "kind " + []string{"nil", "bool", "int", "complex", "atom", "pid", "ref", "tuple", "list"}[i.A-1]
	}
	s := all()[i.Op-1]
	for _, field := range has(i.Op) {
		switch field {
		case 'A':
			s += fmt.Sprintf(" %d", i.A)
		case 'B':
			s += fmt.Sprintf(" %d", i.B)
		}
	}
	for _, a := range i.Arms {
		p, _ := pattern.Print(a.Pattern)
		s += fmt.Sprintf(" ? %s -> %d", p, a.To)
	}
	return s
}

func modelPrint(m api.Module) string {
	s := "module " + m.Name + "\n"
	for _, f := range m.Funcs {
		s += fmt.Sprintf("func %s %d %d\n", f.Name, f.Params, f.Locals)
		for _, i := range f.Code {
			s += "  " + modelText(i) + "\n"
		}
	}
	return s
}

// heldInstr holds the instruction of a text against the model, and its text.
func heldInstr(t *testing.T, s string) bool {
	t.Helper()
	i, ok := modelInstr(s)
	if !ok {
		if i, e := asm.InstrOf(s); !reflect.DeepEqual(i, api.Instr{}) || e != api.ErrAsm {
			t.Errorf("InstrOf(%q): %s, %d, not %d", short(s), show(i), e, api.ErrAsm)
		}
		return false
	}
	wantRead(t, s, i)
	wantInstr(t, i, modelText(i))
	return true
}

// held holds the module of a text against the model, and its text.
func held(t *testing.T, s string) api.Errno {
	t.Helper()
	want, f, place := modelParse(s)
	if f != api.OK {
		wantNone(t, s, f, place)
		return f
	}
	wantParse(t, s, want)
	wantModule(t, want, modelPrint(want))
	return api.OK
}

// strung calls do with all texts of at most so many of the given pieces.
func strung(l []string, most int, do func(string)) {
	var add func(s string, left int)
	add = func(s string, left int) {
		do(s)
		if left == 0 {
			return
		}
		for _, p := range l {
			add(s+p, left-1)
		}
	}
	add("", most)
}

func TestAs1AllShortRowsOfWords(t *testing.T) {
	count := map[bool]int{}
	do := func(s string) { count[heldInstr(t, s)]++ }
	strung([]string{"match", "recv", "push", "kind", "ret", "int", "0", "-1", "?", "->", "_", " ", "a"}, 5, do)
	for _, ahead := range []string{"match 0", "match 0 ", "recv 0 -1 ", "match 1048576 ?_->1"} {
		strung([]string{"?", "->", "_", "0", " ", "-1", ">", "-", "\t"}, 5, func(s string) { do(ahead + s) })
	}
	for _, name := range []string{"dup", "push", "kind", "spawn", "recv"} {
		strung([]string{" ", "0", "1", "-", "\r", "int", "[", "]", ",", "\n", ";"}, 5, func(s string) { do(name + s) })
	}
	if count[true] < 2000 || count[false] < 2000 {
		t.Error("too few of a kind:", count)
	}
}

// changes calls do with a text changed in one place, in all ways of some.
func changes(s string, bytes string, do func(string)) {
	for k := range s {
		do(s[:k])
		do(s[k:])
		do(s[:k] + s[k+1:])
		do(s[:k] + s[k:k+1] + s[k:])
		for b := range len(bytes) {
			do(s[:k] + bytes[b:b+1] + s[k:])
			do(s[:k] + bytes[b:b+1] + s[k+1:])
		}
	}
}

func TestAs1ChangedTexts(t *testing.T) {
	count := map[bool]int{}
	for _, x := range samples() {
		if len(x.s) < 100 {
			changes(x.s, "?->_$019aZ{}[],: \t\r\n;\x00\xff", func(s string) { count[heldInstr(t, s)]++ })
		}
	}
	if count[true] < 2000 || count[false] < 2000 {
		t.Error("too few of a kind:", count)
	}
}

func TestAs3ChangedTexts(t *testing.T) {
	count := map[api.Errno]int{}
	for _, s := range []string{echo, strings.Join(two(), "\n"), " ; x\nmodule m ; y\n\n\tfunc f 1 1;\n load 0\n\r\n pop ;\n recv 0 5?$0->0 ; z"} {
		changes(s, "?->_$012amf{}, \t\r\n;\xff", func(s string) { count[held(t, s)]++ })
	}
	for _, e := range []api.Errno{api.OK, api.ErrAsm, api.ErrModule, api.ErrCode, api.ErrJump, api.ErrHeight} {
		if count[e] < 10 {
			t.Error("too few of", e, count)
		}
	}
}

func TestAs3AllShortRowsOfLines(t *testing.T) {
	count := map[api.Errno]int{}
	strung([]string{"module m\n", " module n ; x\n", "func f 0 0\n", "func g -1 2\n", "func\n", "\n", "; x\n", " recv 0 -1\n", "ret\n", "push 1\n", "jump 0", "x\n"}, 4, func(s string) { count[held(t, s)]++ })
	strung([]string{"func f 0 0\n", "func g 1 1\n", " ;\n", "recv 0 -1\n", "push 1\n", "pop\n", "call 1\n", "ret\n", "jump 1\n"}, 5, func(s string) { count[held(t, "module m\nfunc e 0 0\n"+s)]++ })
	for _, e := range []api.Errno{api.OK, api.ErrAsm, api.ErrModule, api.ErrCode, api.ErrJump, api.ErrHeight, api.ErrFall} {
		if count[e] < 10 {
			t.Error("too few of", e, count)
		}
	}
}
