package pack

import (
	"strings"

	"carousel/api"
)

// term is one that stands within some others.
func (r *reader) term(within int) (api.Term, bool) {
	var t api.Term
	var ok bool
	if within >= api.MaxDeep {
		goto none
	}
	if t.Kind, ok = r.oneOf(api.KindList); !ok {
		goto none
	}
	switch t.Kind {
	case api.KindBool, api.KindRef:
		t.N, ok = r.count()
	case api.KindInt:
		t.N, ok = r.number()
	case api.KindComplex:
		t.C, ok = r.parts()
	case api.KindAtom:
		t.S, ok = r.name()
	case api.KindPid:
		t.P, ok = r.pid()
	case api.KindTuple, api.KindList:
		t.L, ok = some(r, func() (api.Term, bool) { return r.term(within + 1) })
	}
	if !ok {
		goto none
	}
	return t, true
none:
	return api.Term{}, false
}

// parts are those of a complex number.
func (r *reader) parts() (complex128, bool) {
	var im float64
	re, ok := r.part()
	if !ok {
		goto none
	}
	if im, ok = r.part(); !ok {
		goto none
	}
	return complex(re, im), true
none:
	return 0, false
}

func (r *reader) pid() (api.Pid, bool) {
	var p api.Pid
	var ok bool
	if p.N, ok = r.count(); !ok {
		goto none
	}
	if p.Gen, ok = r.count(); !ok {
		goto none
	}
	return p, true
none:
	return api.Pid{}, false
}

// pattern is one that stands within some others.
func (r *reader) pattern(within int) (api.Pattern, bool) {
	var p api.Pattern
	inner := func() (api.Pattern, bool) { return r.pattern(within + 1) }
	var ok bool
	if within >= api.MaxDeep {
		goto none
	}
	if p.Kind, ok = r.oneOf(api.PatList); !ok {
		goto none
	}
	switch p.Kind {
	case api.PatVar, api.PatKind:
		p.N, ok = r.count()
	case api.PatTerm:
		p.Term, ok = r.term(0)
	case api.PatTuple, api.PatList:
		p.L, ok = some(r, inner)
	}
	if !ok {
		goto none
	}
	if p.Kind == api.PatList {
		if p.Rest, ok = r.rest(inner); !ok {
			goto none
		}
	}
	return p, true
none:
	return api.Pattern{}, false
}

// rest are the patterns of a Rest: one, or none.
func (r *reader) rest(one func() (api.Pattern, bool)) ([]api.Pattern, bool) {
	var p api.Pattern
	n, ok := r.fit(func(n int) bool { return n <= 1 && r.has(n) })
	if !ok {
		goto none
	}
	if n == 0 {
		return nil, true
	}
	if p, ok = one(); !ok {
		goto none
	}
	return []api.Pattern{p}, true
none:
	return nil, false
}

func (r *reader) arm() (api.Arm, bool) {
	var a api.Arm
	var ok bool
	if a.Pattern, ok = r.pattern(0); !ok {
		goto none
	}
	if a.To, ok = r.count(); !ok {
		goto none
	}
	return a, true
none:
	return api.Arm{}, false
}

func (r *reader) instr() (api.Instr, bool) {
	var i api.Instr
	var ok bool
	if i.Op, ok = r.oneOf(api.OpYield); !ok {
		goto none
	}
	for _, field := range fieldsOf(i.Op) {
		switch field {
		case fieldTerm:
			i.Term, ok = r.term(0)
		case fieldA:
			i.A, ok = r.count()
		case fieldB:
			i.B, ok = r.count()
		case fieldTicks:
			i.B, ok = r.number()
		case fieldArms:
			i.Arms, ok = some(r, r.arm)
		}
		if !ok {
			goto none
		}
	}
	return i, true
none:
	return api.Instr{}, false
}

func (r *reader) function() (api.Func, bool) {
	var f api.Func
	var ok bool
	if f.Name, ok = r.name(); !ok {
		goto none
	}
	if f.Params, ok = r.count(); !ok {
		goto none
	}
	if f.Locals, ok = r.count(); !ok {
		goto none
	}
	if f.Code, ok = some(r, r.instr); !ok {
		goto none
	}
	return f, true
none:
	return api.Func{}, false
}

// module is up to the sum.
func (r *reader) module() (api.Module, bool) {
	var m api.Module
	var ok bool
	if !strings.HasPrefix(r.s, head) {
		goto none
	}
	r.at = len(head)
	if m.Name, ok = r.name(); !ok {
		goto none
	}
	if m.Funcs, ok = some(r, r.function); !ok {
		goto none
	}
	return m, true
none:
	return api.Module{}, false
}
