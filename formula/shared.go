package formula

import (
	"slices"

	"syllogism/api"
)

// Formulas may share their parts, and so be far larger than what they lie in: And of a part twice, of that twice, and so on. Members in a row that are the same in memory are therefore gone over once, where that tells as much.

func oneForm(a, b api.Form) bool {
	return a.Op == b.Op && oneList(a.Vars, b.Vars) && oneList(a.Terms, b.Terms) && oneList(a.Args, b.Args)
}

func oneExpr(a, b api.Expr) bool {
	return a.Var == b.Var && a.Name == b.Name && oneList(a.Args, b.Args)
}

// oneList: are both the same list, and not only alike?
func oneList[E any](a, b []E) bool {
	return len(a) == len(b) && (len(a) == 0 || &a[0] == &b[0])
}

func fewerParts(f api.Form) []api.Form { return fewer(f.Args, oneForm) }

func fewerArguments(x api.Expr) []api.Expr { return fewer(x.Args, oneExpr) }

func fewer[E any](l []E, one func(a, b E) bool) []E {
	return slices.CompactFunc(slices.Clone(l), one)
}

// formSize counts up to most, and looks no further then.
func formSize(f api.Form, most int) int {
	n := min(most, 1+len(f.Vars))
	n += sizes(f.Terms, most-n, oneExpr, exprSize)
	return n + sizes(f.Args, most-n, oneForm, formSize)
}

func exprSize(x api.Expr, most int) int {
	n := min(most, 1)
	return n + sizes(x.Args, most-n, oneExpr, exprSize)
}

// sizes is what members come to together, up to most.
func sizes[E any](l []E, most int, one func(a, b E) bool, size func(x E, most int) int) int {
	n, last := 0, 0
	for i := range l {
		if n >= most {
			return most
		}
		if i == 0 || !one(l[i-1], l[i]) {
			last = size(l[i], most-n)
		}
		n += last
	}
	return min(most, n)
}

func sameExprs(a, b api.Expr) bool {
	return a.Var == b.Var && a.Name == b.Name && sameLists(a.Args, b.Args, oneExpr, sameExprs)
}

// sameLists does not go over two members that are one, nor over such as are both one with those ahead of them.
func sameLists[E any](a, b []E, one, same func(a, b E) bool) bool {
	if len(a) != len(b) {
		return false
	}
	for i := range a {
		again := i > 0 && one(a[i-1], a[i]) && one(b[i-1], b[i])
		if !one(a[i], b[i]) && !again && !same(a[i], b[i]) {
			return false
		}
	}
	return true
}
