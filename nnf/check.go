package nnf

import (
	"syllogism/api"
	"syllogism/formula"
)

// deepest is how many formulas may stand in one another here.
const deepest = 200

// mayBe leaves at the first limit that is passed: so it ends soon, whatever a formula has or shares.
func mayBe(f api.Form) bool {
	size := 0
	for depth, g := range within(f, parts) {
		size += 1 + len(g.Vars)
		if size > api.MaxNodes || depth > deepest || !aloneFits(g) {
			return false
		}
		for _, t := range g.Terms {
			for depth, x := range within(t, arguments) {
				size++
				if size > api.MaxNodes || depth > api.MaxDepth || !termFits(x) {
					return false
				}
			}
		}
	}
	return true
}

// aloneFits asks formula.Check of a formula cut short, since that call has other limits: no table's line tells three parts from more, and what they are is asked of each by itself.
func aloneFits(f api.Form) bool {
	short := api.Form{
		Op:    f.Op,
		Vars:  each(f.Vars[:min(1, len(f.Vars))], itself),
		Terms: each(f.Terms[:min(3, len(f.Terms))], func(x api.Expr) api.Expr { return api.Expr{Var: x.Var, Name: x.Name} }),
		Args:  each(f.Args[:min(3, len(f.Args))], func(api.Form) api.Form { return joined(api.FormTrue) }),
	}
	return formula.Check(short) == api.OK && varsFit(f.Vars)
}

func varsFit(vars []string) bool {
	times := make(map[string]int)
	for _, v := range vars {
		times[v]++
		one := api.Form{Op: api.FormAll, Vars: []string{v}, Args: []api.Form{joined(api.FormTrue)}}
		if times[v] > 1 || formula.Check(one) != api.OK {
			return false
		}
	}
	return true
}

// termFits asks of a term with constants as its arguments, for they are asked of by themselves.
func termFits(x api.Expr) bool {
	if len(x.Args) > api.MaxArity {
		return false
	}
	short := api.Expr{Var: x.Var, Name: x.Name, Args: each(x.Args, func(api.Expr) api.Expr { return api.Expr{Name: "a"} })}
	return formula.Check(api.Form{Op: api.FormEq, Terms: []api.Expr{short, short}}) == api.OK
}
