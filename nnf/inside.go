package nnf

import (
	"syllogism/api"
	"syllogism/formula"
)

// mover moves negations inside, while there is room for what comes out. It has a table for what stands as it is, and one for what stands turned.
type mover struct {
	room          int
	plain, turned lines
}

// moved is false, if what comes out is larger than MaxNodes. It may be larger than any memory: so it is left as soon as that is seen.
func moved(f api.Form) (api.Form, bool) {
	m := &mover{room: api.MaxNodes}
	m.plain, m.turned = m.table(false), m.table(true)
	g := m.turning(false)(f)
	if m.room < 0 {
		return api.Form{}, false
	}
	return g, true
}

// turning answers what moves a formula that stands turned, or not.
func (m *mover) turning(turned bool) change {
	return func(f api.Form) api.Form {
		switch {
		case m.room < 0:
			return api.Form{}
		case turned:
			return m.turned[f.Op](f)
		}
		return m.plain[f.Op](f)
	}
}

// table is P15.2's.
func (m *mover) table(turned bool) lines {
	either := func(op, about api.FormOp) api.FormOp {
		if turned {
			return about
		}
		return op
	}
	so, other := m.turning(turned), m.turning(!turned)
	word := func(op, about api.FormOp) change {
		return func(api.Form) api.Form { return m.made(joined(either(op, about))) }
	}
	literal := func(f api.Form) api.Form { return m.literal(f, turned) }
	list := func(op, about api.FormOp) change {
		return func(f api.Form) api.Form { return m.made(joined(either(op, about), each(f.Args, so)...)) }
	}
	binding := func(op, about api.FormOp) change {
		return func(f api.Form) api.Form {
			return m.made(api.Form{Op: either(op, about), Vars: each(f.Vars, itself), Args: each(f.Args, so)})
		}
	}
	return lines{
		api.FormTrue:  word(api.FormTrue, api.FormFalse),
		api.FormFalse: word(api.FormFalse, api.FormTrue),
		api.FormAtom:  literal,
		api.FormEq:    literal,
		api.FormNot:   func(f api.Form) api.Form { return other(f.Args[0]) },
		api.FormAnd:   list(api.FormAnd, api.FormOr),
		api.FormOr:    list(api.FormOr, api.FormAnd),
		api.FormImplies: func(f api.Form) api.Form {
			return m.made(joined(either(api.FormOr, api.FormAnd), other(f.Args[0]), so(f.Args[1])))
		},
		api.FormIff:  func(f api.Form) api.Form { return m.sides(f, other, so) },
		api.FormXor:  func(f api.Form) api.Form { return m.sides(f, so, other) },
		api.FormAll:  binding(api.FormAll, api.FormSome),
		api.FormSome: binding(api.FormSome, api.FormAll),
	}
}

// sides is an Iff or a Xor: its left side stands first so beside the right one as it is, then about beside the right one turned.
func (m *mover) sides(f api.Form, so, about change) api.Form {
	left, right := f.Args[0], f.Args[1]
	one := m.made(joined(api.FormOr, so(left), m.turning(false)(right)))
	two := m.made(joined(api.FormOr, about(left), m.turning(true)(right)))
	return m.made(joined(api.FormAnd, one, two))
}

func (m *mover) literal(f api.Form, turned bool) api.Form {
	g := m.made(api.Form{Op: f.Op, Terms: termsNamed(f.Terms, itself)})
	if turned {
		return m.made(joined(api.FormNot, g))
	}
	return g
}

// made takes the room for a formula; its parts took theirs when they were made.
func (m *mover) made(f api.Form) api.Form {
	m.room -= formula.Size(api.Form{Vars: f.Vars, Terms: f.Terms})
	return f
}
