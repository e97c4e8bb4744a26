package cnf

import (
	"slices"

	"syllogism/api"
	"syllogism/formula"
	"syllogism/sign"
)

// bare is a formula without All and Some: what a Some binds becomes terms. No name is bound twice there, so that none is caught by another one's All.
func (m *maker) bare(f api.Form, scope []string) (api.Form, api.Errno) {
	switch f.Op {
	case api.FormAll:
		return m.bare(f.Args[0], slices.Concat(scope, f.Vars))
	case api.FormSome:
		g, e := m.witnessed(f, scope)
		if e != api.OK {
			return api.Form{}, e
		}
		return m.bare(g, scope)
	}
	args, e := every(f.Args, func(g api.Form) (api.Form, api.Errno) { return m.bare(g, scope) })
	return api.Form{Op: f.Op, Terms: f.Terms, Args: args}, e
}

// witnessed is a Some's Arg with a term for each of its Vars. What is free in the Some is the same for all of them: each stands in the Arg, and its term brings nothing that is not free there.
func (m *maker) witnessed(f api.Form, scope []string) (api.Form, api.Errno) {
	free := formula.Free(f)
	over := slices.DeleteFunc(slices.Clone(scope), func(v string) bool { return !slices.Contains(free, v) })
	terms := make(map[string]api.Expr)
	for _, v := range f.Vars {
		t, e := m.fresh("sk", over, false)
		if e != api.OK {
			return api.Form{}, e
		}
		terms[v] = t
	}
	return put(f.Args[0], terms), api.OK
}

// fresh is a new symbol over those variables. Too many of them, or too many symbols, are the two errors that there can be.
func (m *maker) fresh(name string, vars []string, pred bool) (api.Expr, api.Errno) {
	s, e := sign.Fresh(m.Sig, name, len(vars), pred)
	if e != api.OK {
		return api.Expr{}, api.ErrLong
	}
	sig, e := sign.Add(m.Sig, s)
	if e != api.OK {
		return api.Expr{}, api.ErrLong
	}
	m.Sig = sig
	return api.Expr{Name: s.Name, Args: each(vars, variable)}, api.OK
}

func variable(v string) api.Expr { return api.Expr{Var: true, Name: v} }

// put is a formula with terms in the places of variables.
func put(f api.Form, terms map[string]api.Expr) api.Form {
	var one func(x api.Expr) api.Expr
	one = func(x api.Expr) api.Expr {
		if t, ok := terms[x.Name]; ok && x.Var {
			return t
		}
		return api.Expr{Var: x.Var, Name: x.Name, Args: each(x.Args, one)}
	}
	return api.Form{
		Op:    f.Op,
		Vars:  f.Vars,
		Terms: each(f.Terms, one),
		Args:  each(f.Args, func(g api.Form) api.Form { return put(g, terms) }),
	}
}
