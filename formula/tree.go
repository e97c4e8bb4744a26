package formula

import (
	"iter"

	"syllogism/api"
)

func parts(f api.Form) []api.Form { return f.Args }

func arguments(x api.Expr) []api.Expr { return x.Args }

// within goes over a formula (a term) and all that is within it, each ahead of what is within it, with its depth; without copies.
func within[E any](x E, inside func(E) []E) iter.Seq2[int, E] {
	return func(yield func(int, E) bool) {
		var visit func(x E, depth int) bool
		visit = func(x E, depth int) bool {
			if !yield(depth, x) {
				return false
			}
			for _, y := range inside(x) {
				if !visit(y, depth+1) {
					return false
				}
			}
			return true
		}
		visit(x, 1)
	}
}

func cloneForm(f api.Form) api.Form {
	return api.Form{
		Op:    f.Op,
		Vars:  each(f.Vars, func(v string) string { return v }),
		Terms: each(f.Terms, cloneExpr),
		Args:  each(f.Args, cloneForm),
	}
}

func cloneExpr(x api.Expr) api.Expr {
	return api.Expr{Var: x.Var, Name: x.Name, Args: each(x.Args, cloneExpr)}
}

// each makes a list of its own, without spare room, of what becomes of the members.
func each[E any](l []E, change func(E) E) []E {
	if len(l) == 0 {
		return nil
	}
	out := make([]E, len(l))
	for i, x := range l {
		out[i] = change(x)
	}
	return out
}
