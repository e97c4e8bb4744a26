package nnf

import (
	"slices"

	"syllogism/api"
	"syllogism/formula"
)

// simplifying answers what makes a formula simple. Each line is handed a formula with simple parts; what it makes of that is simple at once, so none has to be gone to again.
func simplifying() change {
	table := lines{
		api.FormTrue:    itself[api.Form],
		api.FormFalse:   itself[api.Form],
		api.FormAtom:    itself[api.Form],
		api.FormEq:      itself[api.Form],
		api.FormNot:     func(f api.Form) api.Form { return denied(f.Args[0]) },
		api.FormAnd:     func(f api.Form) api.Form { return row(f, api.FormTrue, api.FormFalse) },
		api.FormOr:      func(f api.Form) api.Form { return row(f, api.FormFalse, api.FormTrue) },
		api.FormImplies: implied,
		api.FormIff:     func(f api.Form) api.Form { return sided(f, api.FormTrue, api.FormFalse) },
		api.FormXor:     func(f api.Form) api.Form { return sided(f, api.FormFalse, api.FormTrue) },
		api.FormAll:     bound,
		api.FormSome:    bound,
	}
	var simple change
	simple = func(f api.Form) api.Form {
		return table[f.Op](api.Form{Op: f.Op, Vars: each(f.Vars, itself), Terms: termsNamed(f.Terms, itself), Args: each(f.Args, simple)})
	}
	return simple
}

// denied is Not of a simple formula, made simple.
func denied(f api.Form) api.Form {
	switch f.Op {
	case api.FormTrue:
		return joined(api.FormFalse)
	case api.FormFalse:
		return joined(api.FormTrue)
	case api.FormNot:
		return f.Args[0]
	}
	return joined(api.FormNot, f)
}

// row is an And or an Or: idle says nothing in it, ruling is what it becomes if it has one.
func row(f api.Form, idle, ruling api.FormOp) api.Form {
	var l []api.Form
	for _, g := range f.Args {
		switch g.Op {
		case ruling:
			return joined(ruling)
		case f.Op:
			l = append(l, g.Args...)
		case idle:
		default:
			l = append(l, g)
		}
	}
	switch len(l) {
	case 0:
		return joined(idle)
	case 1:
		return l[0]
	}
	return joined(f.Op, l...)
}

func implied(f api.Form) api.Form {
	left, right := f.Args[0], f.Args[1]
	switch {
	case left.Op == api.FormTrue:
		return right
	case left.Op == api.FormFalse, right.Op == api.FormTrue:
		return joined(api.FormTrue)
	case right.Op == api.FormFalse:
		return denied(left)
	}
	return f
}

// sided is an Iff or a Xor: beside idle it says what its other side says, beside turning the contrary.
func sided(f api.Form, idle, turning api.FormOp) api.Form {
	left, right := f.Args[0], f.Args[1]
	switch {
	case left.Op == idle:
		return right
	case right.Op == idle:
		return left
	case left.Op == turning:
		return denied(right)
	case right.Op == turning:
		return denied(left)
	}
	return f
}

// bound is an All or a Some.
func bound(f api.Form) api.Form {
	free := formula.Free(f.Args[0])
	f.Vars = slices.DeleteFunc(f.Vars, func(v string) bool { return !slices.Contains(free, v) })
	if len(f.Vars) == 0 {
		return f.Args[0]
	}
	return f
}
