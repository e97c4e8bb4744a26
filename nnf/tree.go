package nnf

import (
	"iter"

	"syllogism/api"
)

// change makes a formula of a formula; what it makes is new memory.
type change func(f api.Form) api.Form

// lines are a table of a chapter: what becomes of a formula, by its Op.
type lines map[api.FormOp]change

func parts(f api.Form) []api.Form { return f.Args }

func arguments(x api.Expr) []api.Expr { return x.Args }

// within goes over a formula (a term) and all that is within it, each ahead of what is within it, with its depth.
func within[E any](x E, inside func(E) []E) iter.Seq2[int, E] {
	return func(yield func(int, E) bool) {
		var visit func(x E, depth int) bool
		visit = func(x E, depth int) bool {
			if !yield(depth, x) {
				return false
			}
			for _, y := range inside(x) {
				if !visit(y, depth+1) {
					return false
				}
			}
			return true
		}
		visit(x, 1)
	}
}

// each makes a list of its own of what becomes of the members.
func each[E any](l []E, change func(E) E) []E {
	if len(l) == 0 {
		return nil
	}
	out := make([]E, len(l))
	for i, x := range l {
		out[i] = change(x)
	}
	return out
}

func itself[E any](x E) E { return x }

func joined(op api.FormOp, l ...api.Form) api.Form { return api.Form{Op: op, Args: l} }

// termsNamed is copies of terms, with other names for the variables.
func termsNamed(l []api.Expr, name func(string) string) []api.Expr {
	var one func(x api.Expr) api.Expr
	one = func(x api.Expr) api.Expr {
		if x.Var {
			return api.Expr{Var: true, Name: name(x.Name)}
		}
		return api.Expr{Name: x.Name, Args: each(x.Args, one)}
	}
	return each(l, one)
}
