package cnf

import (
	"iter"
	"slices"

	"syllogism/api"
	"syllogism/formula"
	"syllogism/sign"
)

// head is a symbol or a variable as it stands in a term, with how many arguments it has there.
type head struct {
	name      string
	args      int
	variable  bool
	predicate bool
}

// found is what Fun is of a head, or why there is none.
type found struct {
	fun int
	e   api.Errno
}

// heads are those that were looked for in a signature and among variables: each is looked for once.
type heads struct {
	sig  api.Sig
	vars []string
	seen map[head]found
}

func (h heads) of(x api.Expr, pred bool) found {
	k := head{x.Name, len(x.Args), x.Var, pred}
	f, ok := h.seen[k]
	if !ok {
		f = h.find(k)
		h.seen[k] = f
	}
	return f
}

func (h heads) find(k head) found {
	if !k.mayBe() {
		return found{e: api.ErrArg}
	}
	if k.variable {
		n, ok := place(h.vars, k.name)
		if !ok {
			return found{e: api.ErrNone}
		}
		return found{fun: -1 - n}
	}
	n, ok := sign.Find(h.sig, api.Sym{Name: k.name, Arity: k.args, Pred: k.predicate})
	if !ok {
		return found{e: api.ErrNone}
	}
	return found{fun: n}
}

// mayBe asks formula.Check of a term with constants as its arguments, for they are asked of by themselves.
func (k head) mayBe() bool {
	if k.args > api.MaxArity {
		return false
	}
	x := api.Expr{Var: k.variable, Name: k.name, Args: slices.Repeat([]api.Expr{{Name: "a"}}, k.args)}
	return formula.Check(api.Form{Op: api.FormEq, Terms: []api.Expr{x, x}}) == api.OK
}

func (h heads) term(x api.Expr, pred bool) api.Term {
	return api.Term{Fun: h.of(x, pred).fun, Args: each(x.Args, func(y api.Expr) api.Term { return h.term(y, false) })}
}

func (h heads) termFits(x api.Expr, pred bool) api.Errno {
	size, missing := 0, 0
	for depth, y := range within(x) {
		if depth > api.MaxDepth {
			return api.ErrArg
		}
		switch h.of(y, pred && depth == 1).e {
		case api.ErrArg:
			return api.ErrArg
		case api.ErrNone:
			missing++
		}
		size++
	}
	switch {
	case missing > 0:
		return api.ErrNone
	case size > api.MaxSize:
		return api.ErrLong
	}
	return api.OK
}

// within goes over a term and all that stands in it, each ahead of its arguments, with its depth.
func within(x api.Expr) iter.Seq2[int, api.Expr] {
	return func(yield func(int, api.Expr) bool) {
		var visit func(x api.Expr, depth int) bool
		visit = func(x api.Expr, depth int) bool {
			if !yield(depth, x) {
				return false
			}
			for _, y := range x.Args {
				if !visit(y, depth+1) {
					return false
				}
			}
			return true
		}
		visit(x, 1)
	}
}

func listsFit(sig api.Sig, vars []string) api.Errno {
	if sign.Check(sig) != api.OK || len(vars) > api.MaxVars {
		return api.ErrArg
	}
	for i, v := range vars {
		if first, _ := place(vars, v); first != i {
			return api.ErrArg
		}
	}
	return api.OK
}
