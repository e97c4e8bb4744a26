package nnf_test

import (
	"fmt"
	"math/rand"
	"slices"
	"testing"

	"syllogism/api"
	"syllogism/formula"
)

// with is a formula with another part at a place of its Args.
func with(f api.Form, i int, g api.Form) api.Form {
	f.Args = slices.Clone(f.Args)
	f.Args[i] = g
	return f
}

// plainSimple goes by P15.1 step by step: by one line at one place, the innermost and first one, again and again.
func plainSimple(f api.Form) api.Form {
	for {
		g, ok := simpler(f)
		if !ok {
			return f
		}
		f = g
	}
}

func simpler(f api.Form) (api.Form, bool) {
	for i, g := range f.Args {
		if h, ok := simpler(g); ok {
			return with(f, i, h), true
		}
	}
	switch f.Op {
	case api.FormNot:
		switch g := f.Args[0]; g.Op {
		case api.FormTrue:
			return no(), true
		case api.FormFalse:
			return yes(), true
		case api.FormNot:
			return g.Args[0], true
		}
	case api.FormAnd:
		return shorter(f, api.FormTrue, api.FormFalse)
	case api.FormOr:
		return shorter(f, api.FormFalse, api.FormTrue)
	case api.FormImplies:
		return twoSided(f, map[string]api.Form{"true ": f.Args[1], "false ": yes(), " true": yes(), " false": not(f.Args[0])}, "true ", "false ", " true", " false")
	case api.FormIff:
		return twoSided(f, map[string]api.Form{"true ": f.Args[1], "false ": not(f.Args[1]), " true": f.Args[0], " false": not(f.Args[0])}, "true ", " true", "false ", " false")
	case api.FormXor:
		return twoSided(f, map[string]api.Form{"true ": not(f.Args[1]), "false ": f.Args[1], " true": not(f.Args[0]), " false": f.Args[0]}, "true ", " true", "false ", " false")
	case api.FormAll, api.FormSome:
		for i, x := range f.Vars {
			if !slices.Contains(formula.Free(f.Args[0]), x) {
				f.Vars = slices.Delete(slices.Clone(f.Vars), i, i+1)
				return f, true
			}
		}
		if len(f.Vars) == 0 {
			return f.Args[0], true
		}
	}
	return f, false
}

// shorter is an And or an Or by one step.
func shorter(f api.Form, goes, wins api.FormOp) (api.Form, bool) {
	for i, g := range f.Args {
		switch g.Op {
		case f.Op:
			f.Args = slices.Replace(slices.Clone(f.Args), i, i+1, g.Args...)
			return f, true
		case goes:
			f.Args = slices.Delete(slices.Clone(f.Args), i, i+1)
			return f, true
		case wins:
			return g, true
		}
	}
	switch len(f.Args) {
	case 0:
		return form(goes), true
	case 1:
		return f.Args[0], true
	}
	return f, false
}

// twoSided is what becomes of a formula by the first of the lines that fits: "true " is one with True at its left side, " false" with False at its right one.
func twoSided(f api.Form, lines map[string]api.Form, order ...string) (api.Form, bool) {
	for _, line := range order {
		var left, right string
		if f.Args[0].Op <= api.FormFalse {
			left = show(f.Args[0]) + " "
		}
		if f.Args[1].Op <= api.FormFalse {
			right = " " + show(f.Args[1])
		}
		if line == left || line == right {
			return lines[line], true
		}
	}
	return f, false
}

// plainInside writes turned as a Not, and goes by what a formula of Not stands for, from the outermost one on.
func plainInside(f api.Form) api.Form {
	switch f.Op {
	case api.FormImplies:
		return plainInside(or(not(f.Args[0]), f.Args[1]))
	case api.FormIff:
		return plainInside(and(or(not(f.Args[0]), f.Args[1]), or(f.Args[0], not(f.Args[1]))))
	case api.FormXor:
		return plainInside(not(iff(f.Args...)))
	case api.FormNot:
		if g := f.Args[0]; g.Op != api.FormAtom && g.Op != api.FormEq {
			return plainInside(contrary(g))
		}
	}
	for i, g := range f.Args {
		f = with(f, i, plainInside(g))
	}
	return f
}

func contrary(f api.Form) api.Form {
	denied := f
	for i, g := range f.Args {
		denied = with(denied, i, not(g))
	}
	switch f.Op {
	case api.FormTrue:
		return no()
	case api.FormFalse:
		return yes()
	case api.FormNot:
		return f.Args[0]
	case api.FormImplies:
		return and(f.Args[0], not(f.Args[1]))
	case api.FormIff:
		return and(or(f.Args...), or(denied.Args...))
	case api.FormXor:
		return iff(f.Args...)
	}
	denied.Op = map[api.FormOp]api.FormOp{api.FormAnd: api.FormOr, api.FormOr: api.FormAnd, api.FormAll: api.FormSome, api.FormSome: api.FormAll}[f.Op]
	return denied
}

// plainApart first calls all variables by the number of what binds them, one by one, and then tells the names out.
func plainApart(f api.Form) api.Form {
	free := formula.Free(f)
	var names []string
	for k := 0; len(names) < formula.Size(f); k++ {
		if x := fmt.Sprint("X", k); !slices.Contains(free, x) {
			names = append(names, x)
		}
	}
	n := 0
	var visit func(f api.Form) api.Form
	visit = func(f api.Form) api.Form {
		g := api.Form{Op: f.Op, Terms: f.Terms}
		body := slices.Clone(f.Args)
		for _, x := range f.Vars {
			mark := fmt.Sprint("#", n)
			n++
			g.Vars = append(g.Vars, mark)
			body[0] = putIn(body[0], x, mark)
		}
		for _, h := range body {
			g.Args = append(g.Args, visit(h))
		}
		return g
	}
	g := visit(f)
	for k := range n {
		g = putIn(g, fmt.Sprint("#", k), names[k])
	}
	return g
}

// putIn calls a variable otherwise wherever it is free; one that is marked, where it is bound too.
func putIn(f api.Form, old, name string) api.Form {
	if slices.Contains(f.Vars, old) && old[0] != '#' {
		return f
	}
	var term func(x api.Expr) api.Expr
	term = func(x api.Expr) api.Expr {
		y := api.Expr{Var: x.Var, Name: x.Name}
		if x.Var && x.Name == old {
			y.Name = name
		}
		for _, a := range x.Args {
			y.Args = append(y.Args, term(a))
		}
		return y
	}
	g := api.Form{Op: f.Op}
	for _, x := range f.Vars {
		if x == old {
			x = name
		}
		g.Vars = append(g.Vars, x)
	}
	for _, x := range f.Terms {
		g.Terms = append(g.Terms, term(x))
	}
	for _, h := range f.Args {
		g.Args = append(g.Args, putIn(h, old, name))
	}
	return g
}

// held holds the three calls against their plain second ways, of a formula that may be here. It tells how much came of it.
func held(t *testing.T, f api.Form) (long bool) {
	t.Helper()
	becomes(t, simple(), f, plainSimple(f))
	becomes(t, apart(), f, plainApart(f))
	if outside(f) > api.MaxNodes {
		refuses(t, inside(), f, api.ErrLong)
		return true
	}
	becomes(t, inside(), f, plainInside(f))
	return false
}

// small are all formulas of a size, with few names; of each kind one or two.
type small struct{ forms map[int][]api.Form }

func (s *small) of(size int) []api.Form {
	if l, ok := s.forms[size]; ok || size < 1 {
		return l
	}
	var l []api.Form
	switch size {
	case 1:
		l = []api.Form{yes(), no()}
	case 2:
		l = []api.Form{atom("q")}
	case 3:
		l = []api.Form{atom("p", v("X")), atom("p", v("X0")), eq(v("X"), v("X0"))}
	}
	for _, f := range s.of(size - 1) {
		l = append(l, not(f))
	}
	for _, f := range s.of(size - 2) {
		l = append(l, all("X", f), some("X0", f))
	}
	for _, f := range s.of(size - 3) {
		l = append(l, all("X X0", f), some("Y X", f))
	}
	for n := 1; n < size-1; n++ {
		for _, f := range s.of(n) {
			for _, g := range s.of(size - 1 - n) {
				l = append(l, and(f, g), or(f, g), implies(f, g), iff(f, g), xor(f, g))
			}
			for m := 1; m < size-1-n; m++ {
				for _, g := range s.of(m) {
					for _, h := range s.of(size - 1 - n - m) {
						l = append(l, and(f, g, h), or(f, g, h))
					}
				}
			}
		}
	}
	s.forms[size] = l
	return l
}

func smallOnes(size int) []api.Form {
	s := &small{map[int][]api.Form{}}
	var l []api.Form
	for n := 1; n <= size; n++ {
		l = append(l, s.of(n)...)
	}
	return l
}

// TestSmallFormulas: all of them.
func TestSmallFormulas(t *testing.T) {
	l := smallOnes(6)
	changed := map[string]int{}
	for _, f := range l {
		held(t, f)
		for _, c := range calls() {
			if !same(made(t, c, f), f) {
				changed[c.name]++
			}
		}
	}
	if len(l) < 4000 || changed["Simple"] < 2000 || changed["Inside"] < 2000 || changed["Apart"] < 500 {
		t.Error(len(l), changed)
	}
}

// strange is a formula at hazard that may be, if it isn't too large; consts tells how often True and False stand there.
func strange(r *rand.Rand, depth, consts int) api.Form {
	if depth <= 1 || r.Intn(12) == 0 {
		switch n := r.Intn(10); {
		case n < consts:
			return form(api.FormOp(1 + r.Intn(2)))
		case n%2 == 0:
			return eq(strangeTerm(r, 1+r.Intn(3)), strangeTerm(r, 1+r.Intn(3)))
		}
		var l []api.Expr
		for range r.Intn(4) {
			l = append(l, strangeTerm(r, 1+r.Intn(3)))
		}
		return atom([]string{"p", "q", "P", "X"}[r.Intn(4)], l...)
	}
	f := api.Form{Op: api.FormNot + api.FormOp(r.Intn(8))}
	args := 2
	switch f.Op {
	case api.FormNot:
		args = 1
	case api.FormAnd, api.FormOr:
		args = 2 + r.Intn(4)
	case api.FormAll, api.FormSome:
		args = 1
		names := someNames()
		for _, i := range r.Perm(len(names))[:1+r.Intn(4)] {
			f.Vars = append(f.Vars, names[i])
		}
	}
	for range args {
		f.Args = append(f.Args, strange(r, depth-1, consts))
	}
	return f
}

func someNames() []string { return []string{"X", "Y", "X0", "X1", "X2", "X01"} }

func strangeTerm(r *rand.Rand, depth int) api.Expr {
	if depth <= 1 {
		names := someNames()
		if n := r.Intn(9); n < len(names) {
			return v(names[n])
		}
		return of([]string{"a", "X0", "1"}[r.Intn(3)])
	}
	return of([]string{"f", "g", "X"}[r.Intn(3)], []api.Expr{strangeTerm(r, depth-1), strangeTerm(r, depth-1), of("a")}[:1+r.Intn(3)]...)
}

// thrown are formulas thrown together, of many sizes, that may be here.
func thrown(seed int64, n int) []api.Form {
	r := rand.New(rand.NewSource(seed))
	var l []api.Form
	for len(l) < n {
		f := strange(r, 2+r.Intn(6), r.Intn(10))
		if formula.Size(f) <= api.MaxNodes {
			l = append(l, f)
		}
	}
	return l
}

func TestLargeFormulas(t *testing.T) {
	long, large := 0, 0
	for _, f := range thrown(151, 4000) {
		if held(t, f) {
			long++
		}
		if formula.Size(f) > 200 {
			large++
		}
	}
	if long < 60 || large < 300 {
		t.Error(long, large)
	}
}
