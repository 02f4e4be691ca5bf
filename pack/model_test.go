package pack_test

import (
	"encoding/binary"
	"hash/adler32"
	"reflect"
	"slices"
	"testing"

	"carousel/api"
	"carousel/code"
	"carousel/pack"
	"carousel/term"
)

// The model writes and reads as the document says it, by the library's counts and sums, to hold the package against.

func modelTerm(t api.Term) string {
	s := c(t.Kind)
	switch t.Kind {
	case 2, 7:
		s += c(t.N)
	case 3:
		s += num(t.N)
	case 4:
		s += num(int(real(t.C))) + num(int(imag(t.C)))
	case 5:
		s += name(t.S)
	case 6:
		s += c(t.P.N, t.P.Gen)
	case 8, 9:
		s += c(len(t.L))
	}
	for _, x := range t.L {
		s += modelTerm(x)
	}
	return s
}

func modelPattern(p api.Pattern) string {
	s := c(p.Kind)
	switch p.Kind {
	case 2, 4:
		s += c(p.N)
	case 3:
		s += modelTerm(p.Term)
	case 5, 6:
		s += c(len(p.L))
	}
	for _, x := range p.L {
		s += modelPattern(x)
	}
	if p.Kind == 6 {
		s += c(len(p.Rest))
	}
	for _, x := range p.Rest {
		s += modelPattern(x)
	}
	return s
}

// modelFields are what an operation has behind it: T a term, A and B counts, N the number B, R arms.
func modelFields(op int) string {
	switch op {
	case 1:
		return "T"
	case 3, 4, 5, 17, 18, 19, 25, 26, 28:
		return "A"
	case 27:
		return "AR"
	case 33:
		return "ANR"
	case 34:
		return "AB"
	}
	return ""
}

func modelInstr(i api.Instr) string {
	s := c(i.Op)
	for _, field := range modelFields(i.Op) {
		switch field {
		case 'T':
			s += modelTerm(i.Term)
		case 'A':
			s += c(i.A)
		case 'B':
			s += c(i.B)
		case 'N':
			s += num(i.B)
		case 'R':
			s += c(len(i.Arms))
		}
	}
	for _, a := range i.Arms {
		s += modelPattern(a.Pattern) + c(a.To)
	}
	return s
}

func modelPack(m api.Module) string {
	b := []byte("CRM1" + name(m.Name) + c(len(m.Funcs)))
	for _, f := range m.Funcs {
		b = append(b, name(f.Name)+c(f.Params, f.Locals, len(f.Code))...)
		for _, i := range f.Code {
			b = append(b, modelInstr(i)...)
		}
	}
	return sealed(string(b))
}

// model reads; it panics with the place of what can not be read.
type model struct {
	s  string
	at int
}

type wrong int

func (x *model) need(ok bool, place int) {
	if !ok {
		panic(wrong(place))
	}
}

func (x *model) count() int {
	n, width := binary.Uvarint([]byte(x.s[x.at:]))
	x.need(width > 0 && n <= most && c(int(n)) == x.s[x.at:x.at+width], x.at)
	x.at += width
	return int(n)
}

func (x *model) number() int {
	n := x.count()
	if n%2 == 1 {
		return -(n/2 + 1)
	}
	return n / 2
}

func (x *model) length() int {
	place := x.at
	n := x.count()
	x.need(n <= len(x.s)-x.at, place)
	return n
}

func (x *model) among(least, most int) int {
	place := x.at
	n := x.count()
	x.need(n >= least && n <= most, place)
	return n
}

func (x *model) name() string {
	n := x.length()
	x.at += n
	return x.s[x.at-n : x.at]
}

func (x *model) part() float64 {
	place := x.at
	n := x.number()
	x.need(n >= -1<<30 && n <= 1<<30, place)
	return float64(n)
}

func (x *model) term(within int) api.Term {
	x.need(within < 64, x.at)
	t := api.Term{Kind: x.among(1, 9)}
	switch t.Kind {
	case 2, 7:
		t.N = x.count()
	case 3:
		t.N = x.number()
	case 4:
		re := x.part()
		t.C = complex(re, x.part())
	case 5:
		t.S = x.name()
	case 6:
		t.P.N = x.count()
		t.P.Gen = x.count()
	case 8, 9:
		for range x.length() {
			t.L = append(t.L, x.term(within+1))
		}
	}
	return t
}

func (x *model) pattern(within int) api.Pattern {
	x.need(within < 64, x.at)
	p := api.Pattern{Kind: x.among(1, 6)}
	switch p.Kind {
	case 2, 4:
		p.N = x.count()
	case 3:
		p.Term = x.term(0)
	case 5, 6:
		for range x.length() {
			p.L = append(p.L, x.pattern(within+1))
		}
	}
	if p.Kind == 6 {
		place := x.at
		n := x.length()
		x.need(n <= 1, place)
		for range n {
			p.Rest = append(p.Rest, x.pattern(within+1))
		}
	}
	return p
}

func (x *model) instr() api.Instr {
	i := api.Instr{Op: x.among(1, 46)}
	for _, field := range modelFields(i.Op) {
		switch field {
		case 'T':
			i.Term = x.term(0)
		case 'A':
			i.A = x.count()
		case 'B':
			i.B = x.count()
		case 'N':
			i.B = x.number()
		case 'R':
			for range x.length() {
				p := x.pattern(0)
				i.Arms = append(i.Arms, arm(p, x.count()))
			}
		}
	}
	return i
}

func (x *model) module() (m api.Module) {
	x.need(len(x.s) >= 4 && x.s[:4] == "CRM1", 0)
	x.at = 4
	m.Name = x.name()
	for range x.length() {
		f := api.Func{Name: x.name()}
		f.Params = x.count()
		f.Locals = x.count()
		for range x.length() {
			f.Code = append(f.Code, x.instr())
		}
		m.Funcs = append(m.Funcs, f)
	}
	x.need(len(x.s)-x.at == 4, x.at)
	return m
}

// given calls read, and tells where that gave up: -1, if it did not.
func given(read func()) (place int) {
	defer func() {
		if p := recover(); p != nil {
			place = int(p.(wrong))
		}
	}()
	read()
	return -1
}

func modelUnpack(s string) (api.Module, api.Errno, int) {
	if len(s) > 1<<18 {
		return api.Module{}, api.ErrLong, 0
	}
	var m api.Module
	x := model{s: s}
	if place := given(func() { m = x.module() }); place >= 0 {
		return api.Module{}, api.ErrPack, place
	}
	if binary.LittleEndian.Uint32([]byte(s[x.at:])) != adler32.Checksum([]byte(s[:x.at])) {
		return api.Module{}, api.ErrSum, x.at
	}
	if e, _, _ := code.Check(m); e != api.OK {
		return api.Module{}, e, 0
	}
	return m, api.OK, 0
}

func modelTermOf(s string) (t api.Term, at int, e api.Errno) {
	if len(s) > 1<<18 {
		return api.Term{}, 0, api.ErrLong
	}
	x := model{s: s}
	if given(func() { t = x.term(0) }) >= 0 {
		return api.Term{}, 0, api.ErrPack
	}
	if e := term.Check(t); e != api.OK {
		return api.Term{}, 0, e
	}
	return t, x.at, api.OK
}

// held holds what is read of bytes against the model, and, if they are a module's, its bytes.
func held(t *testing.T, s string) api.Errno {
	t.Helper()
	want, f, place := modelUnpack(s)
	m, e, at := pack.Unpack(s)
	if e != f || at != place || !sameModule(m, want) || e != api.OK && !reflect.DeepEqual(m, api.Module{}) {
		t.Errorf("Unpack(%s): %q with %d functions, %d, %d, not %d, %d", show(s), m.Name, len(m.Funcs), e, at, f, place)
	}
	if e == api.OK {
		wantPack(t, m, s, api.OK)
	}
	return f
}

// heldTerm is held of a term, whose bytes are just those up to its end.
func heldTerm(t *testing.T, s string) api.Errno {
	t.Helper()
	want, place, f := modelTermOf(s)
	x, at, e := pack.TermOf(s)
	if e != f || at != place || !sameTerm(x, want) || e != api.OK && !reflect.DeepEqual(x, api.Term{}) {
		t.Errorf("TermOf(%s): kind %d, %d, %d, not %d, %d", show(s), x.Kind, at, e, place, f)
	}
	if e == api.OK {
		if again, e := pack.Term(x); again != s[:at] || e != api.OK {
			t.Errorf("Term of TermOf(%s): %s, %d", show(s), show(again), e)
		}
	}
	return f
}

// strung calls do with all rows of at most so many of some bytes.
func strung(bytes string, most int, do func(string)) {
	var add func(s string, left int)
	add = func(s string, left int) {
		do(s)
		if left == 0 {
			return
		}
		for k := range len(bytes) {
			add(s+bytes[k:k+1], left-1)
		}
	}
	add("", most)
}

func wantKinds(t *testing.T, count map[api.Errno]int, l ...api.Errno) {
	t.Helper()
	for _, e := range l {
		if count[e] < 10 {
			t.Error("too few of", e, count)
		}
	}
}

func TestP83AllShortTerms(t *testing.T) {
	count := map[api.Errno]int{}
	do := func(s string) { count[heldTerm(t, s)]++ }
	all := make([]byte, 256)
	for k := range all {
		all[k] = byte(k)
	}
	strung(string(all), 2, do)
	strung(by(0, 1, 2, 3, 4, 5, 6, 7, 8, 9, 10, 'a', 128, 255), 5, do)
	strung(by(8, 1, 0, 129), 9, do)
	wantKinds(t, count, api.OK, api.ErrPack, api.ErrTerm)
}

func TestP82AllShortModules(t *testing.T) {
	count := map[api.Errno]int{}
	do := func(s string) { count[held(t, s)]++ }
	for _, ahead := range []string{"", "CRM1", "CRM1" + name("m"), "CRM1" + name("m") + c(1) + name("f"), plainBytes(1, ""), plainBytes(2, ""), plainBytes(1, by(27, 1, 1)), plainBytes(1, by(27, 1, 2)), plainBytes(1, c(33, 0)), plainBytes(1, by(1, 8))} {
		strung(by(0, 1, 2, 3, 6, 29, 33, 'a', 128), 4, func(s string) {
			do(ahead + s)
			do(sealed(ahead + s))
			do(sealed(ahead+s) + "\x00")
		})
	}
	wantKinds(t, count, api.OK, api.ErrPack, api.ErrSum, api.ErrModule, api.ErrCode, api.ErrJump)
}

// changed calls do with bytes changed in one place, in all ways of some.
func changed(s string, bytes string, do func(string)) {
	for k := range len(s) {
		do(s[:k])
		do(s[:k] + s[k+1:])
		do(s[:k] + s[k:k+1] + s[k:])
		for b := range len(bytes) {
			do(s[:k] + bytes[b:b+1] + s[k:])
			do(s[:k] + bytes[b:b+1] + s[k+1:])
		}
	}
}

// bodies are modules up to their sums: of some all is come to, so that their heights may be wrong when they are changed.
func bodies() []string {
	l := []string{
		"CRM1\x01m\x01\x01f\x00\x00\x02\x01\x01\x1d",
		"CRM1\x04echo\x01\x04main\x00\x02\x06" + by(33, 0, 1, 2, 5, 2, 2, 0, 2, 1, 1, 1, 0, 4, 0, 4, 1, 32, 2, 25, 0),
		"CRM1\x03two\x02\x01a\x02\x03\x02" + by(4, 2, 29) + "\x01b\x00\x20\x07" + by(1, 3, 2, 1, 3, 4, 28, 0, 1, 3, 2, 1, 3, 4, 34, 0, 2, 29),
	}
	for _, x := range instrs() {
		if len(x.s) <= 60 {
			l = append(l, plainBytes(2, x.s+by(29)))
		}
	}
	return l
}

// What is changed ahead of the sum is told even if the sum is made for it.
func TestP82ChangedModules(t *testing.T) {
	count := map[api.Errno]int{}
	for _, s := range bodies() {
		changed(s, by(0, 1, 2, 3, 4, 5, 6, 7, 8, 9, 10, 29, 33, 46, 47, 'a', 127, 128, 129, 255), func(s string) {
			count[held(t, sealed(s))]++
			count[held(t, s)]++
		})
	}
	wantKinds(t, count, api.OK, api.ErrPack, api.ErrModule, api.ErrCode, api.ErrJump, api.ErrHeight, api.ErrFall)
}

func TestP83ChangedTerms(t *testing.T) {
	count := map[api.Errno]int{}
	for _, x := range terms() {
		if len(x.s) < 200 {
			changed(x.s, by(0, 1, 2, 3, 4, 5, 6, 7, 8, 9, 10, 'a', 'A', 127, 128, 129, 255), func(s string) { count[heldTerm(t, s)]++ })
		}
	}
	wantKinds(t, count, api.OK, api.ErrPack, api.ErrTerm)
	if slices.Max([]int{count[api.OK], count[api.ErrPack]}) < 2000 {
		t.Error("too few:", count)
	}
}
