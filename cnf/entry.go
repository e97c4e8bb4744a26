package cnf

import (
	"iter"

	"syllogism/api"
	"syllogism/formula"
	"syllogism/nnf"
	"syllogism/sign"
	"syllogism/tptp"
)

// The roles of which more is said than that a formula is true.
const (
	conjecture = "conjecture"
	negated    = "negated_conjecture"
)

// maker is a signature that grows as clauses are made.
type maker struct{ api.Sig }

func entriesFit(l []api.Entry) api.Errno {
	if len(l) > api.MaxEntries {
		return api.ErrLong
	}
	conjectures := 0
	for _, x := range l {
		if e := tptp.Check(x); e != api.OK {
			return e
		}
		if x.Role == conjecture {
			conjectures++
		}
	}
	if conjectures > 1 {
		return api.ErrMany
	}
	return api.OK
}

// symbols are those of the entries as they were handed in: what goes as a formula is made simple, too.
func symbols(l []api.Entry) (api.Sig, api.Errno) {
	var all []api.Sym
	for _, x := range l {
		all = append(all, formula.Symbols(x.Form)...)
	}
	return sign.Add(sign.New(), all...)
}

// entry goes over the clauses of an entry; an error is the last that it tells.
func (m *maker) entry(x api.Entry) iter.Seq2[api.Clause, api.Errno] {
	return func(yield func(api.Clause, api.Errno) bool) {
		f, e := ready(says(x))
		if e == api.OK {
			f, e = m.bare(f, nil)
		}
		var parts []later
		if e == api.OK {
			parts, e = m.parts(f)
		}
		if e != api.OK {
			yield(nil, e)
			return
		}
		for c, e := range m.clauses(parts, formula.Free(f)) {
			if !yield(c, e) || e != api.OK {
				return
			}
		}
	}
}

// says is what an entry says: only one with Cnf has free variables.
func says(x api.Entry) api.Form {
	free := formula.Free(x.Form)
	switch {
	case len(free) > 0:
		return api.Form{Op: api.FormAll, Vars: free, Args: []api.Form{x.Form}}
	case x.Role == conjecture:
		return not(x.Form)
	}
	return x.Form
}

func ready(f api.Form) (api.Form, api.Errno) {
	for _, step := range []func(api.Form) (api.Form, api.Errno){nnf.Simple, nnf.Inside, nnf.Simple, nnf.Apart} {
		g, e := step(f)
		if e != api.OK {
			return api.Form{}, e
		}
		f = g
	}
	return f, api.OK
}
