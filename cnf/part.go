package cnf

import (
	"syllogism/api"
	"syllogism/formula"
)

// Counts: an Or with a greater one than mostOr puts its parts off; none is told above mostCount.
const (
	mostOr    = 8
	mostCount = 10000
)

// later is a formula that waits for its turn, and the literals that stand ahead in each of its clauses.
type later struct {
	api.Form
	ahead []api.Form
}

// reader reads what waits, the first one first; what it puts off waits behind all others.
type reader struct {
	*maker
	queue []later
}

// parts are the formula and those that are put off, in the order in which they are.
func (m *maker) parts(f api.Form) ([]later, api.Errno) {
	r := &reader{m, []later{{Form: f}}}
	for i := 0; i < len(r.queue); i++ {
		g, e := r.short(r.queue[i].Form)
		if e != api.OK {
			return nil, e
		}
		r.queue[i].Form = g
	}
	return r.queue, api.OK
}

// short is a formula in which no Or has too great a count: the parts of one that has are put off.
func (r *reader) short(f api.Form) (api.Form, api.Errno) {
	change := r.short
	if f.Op == api.FormOr && count(f) > mostOr {
		change = r.putOff
	}
	args, e := every(f.Args, change)
	return api.Form{Op: f.Op, Terms: f.Terms, Args: args}, e
}

// putOff is the atom for which a part gives way; what is no more than one clause stays.
func (r *reader) putOff(f api.Form) (api.Form, api.Errno) {
	if count(f) <= 1 {
		return f, api.OK
	}
	t, e := r.fresh("def", formula.Free(f), true)
	if e != api.OK {
		return api.Form{}, e
	}
	atom := api.Form{Op: api.FormAtom, Terms: []api.Expr{t}}
	r.queue = append(r.queue, later{f, []api.Form{not(atom)}})
	return atom, api.OK
}

// count is of what neither All, Some nor True stands in, since those are gone by then.
func count(f api.Form) int {
	n := 1
	switch f.Op {
	case api.FormAnd:
		n = 0
		for _, g := range f.Args {
			n = min(n+count(g), mostCount)
		}
	case api.FormOr:
		for _, g := range f.Args {
			n = min(n*count(g), mostCount)
		}
	}
	return n
}

func not(f api.Form) api.Form { return api.Form{Op: api.FormNot, Args: []api.Form{f}} }
