package cnf

import (
	"iter"
	"slices"

	"syllogism/api"
	"syllogism/subst"
	"syllogism/term"
)

// clauses goes over the clauses of all parts. Till a clause is made, a variable's number is its place among those of the entry.
func (m *maker) clauses(parts []later, vars []string) iter.Seq2[api.Clause, api.Errno] {
	return func(yield func(api.Clause, api.Errno) bool) {
		h := heads{sig: m.Sig, vars: vars, seen: make(map[head]found)}
		for _, p := range parts {
			for l := range lists(p.ahead, p.Form) {
				if c := h.clause(l); !m.clauseFits(c) {
					yield(nil, api.ErrLong)
					return
				} else if !yield(c, api.OK) {
					return
				}
			}
		}
	}
}

// lists goes over what a formula's clauses are made of: lists of literals, each behind those ahead. True has none, False one with no more than those.
func lists(ahead []api.Form, f api.Form) iter.Seq[[]api.Form] {
	return func(yield func([]api.Form) bool) {
		switch f.Op {
		case api.FormTrue:
		case api.FormFalse:
			yield(ahead)
		case api.FormAnd:
			for _, g := range f.Args {
				for l := range lists(ahead, g) {
					if !yield(l) {
						return
					}
				}
			}
		case api.FormOr:
			joined(ahead, f.Args)(yield)
		default:
			yield(slices.Concat(ahead, []api.Form{f}))
		}
	}
}

// joined goes over all that have one list of each formula: what comes of the last one changes the fastest.
func joined(ahead []api.Form, l []api.Form) iter.Seq[[]api.Form] {
	return func(yield func([]api.Form) bool) {
		if len(l) == 0 {
			yield(ahead)
			return
		}
		for first := range lists(ahead, l[0]) {
			for whole := range joined(first, l[1:]) {
				if !yield(whole) {
					return
				}
			}
		}
	}
}

func (h heads) clause(l []api.Form) api.Clause {
	var c api.Clause
	for _, f := range l {
		x := h.literal(f)
		if !slices.ContainsFunc(c, func(y api.Lit) bool { return sameLiteral(x, y) }) {
			c = append(c, x)
		}
	}
	c, _ = subst.Normal(c)
	return c
}

func (h heads) literal(f api.Form) api.Lit {
	switch f.Op {
	case api.FormNot:
		x := h.literal(f.Args[0])
		x.Neg = true
		return x
	case api.FormEq:
		return api.Lit{L: h.term(f.Terms[0], false), R: h.term(f.Terms[1], false)}
	}
	return api.Lit{L: h.term(f.Terms[0], true)}
}

func sameLiteral(x, y api.Lit) bool {
	return x.Neg == y.Neg && term.Same(x.L, y.L) && term.Same(x.R, y.R)
}

// clauseFits asks of a clause in its normal form: too many variables are numbers that none has.
func (m *maker) clauseFits(c api.Clause) bool {
	if len(c) > api.MaxLits {
		return false
	}
	for _, l := range c {
		if term.Check(m.Sig, l.L) != api.OK || term.Check(m.Sig, l.R) != api.OK {
			return false
		}
	}
	return true
}
