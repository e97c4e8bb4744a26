package nnf_test

import (
	"slices"
	"testing"

	"syllogism/api"
	"syllogism/formula"
)

// world is an interpretation: what its symbols answer is made of their names, their arguments and a seed.
type world struct{ size, seed int }

func (w world) answer(name string, args []int, size int) int {
	n := uint64(w.seed)*0x9e3779b97f4a7c15 + uint64(len(args))
	for _, b := range []byte(name) {
		n = (n ^ uint64(b)) * 0x100000001b3
	}
	for _, a := range args {
		n = (n ^ uint64(a+7)) * 0xff51afd7ed558ccd
		n ^= n >> 29
	}
	n = (n ^ n>>33) * 0xc4ceb9fe1a85ec53
	return int((n >> 32) % uint64(size))
}

func (w world) term(x api.Expr, values map[string]int) int {
	if x.Var {
		return values[x.Name]
	}
	return w.answer(x.Name, w.terms(x.Args, values), w.size)
}

func (w world) terms(l []api.Expr, values map[string]int) []int {
	var out []int
	for _, x := range l {
		out = append(out, w.term(x, values))
	}
	return out
}

// says is what a formula says there, by chapter 31.
func (w world) says(f api.Form, values map[string]int) bool {
	part := func(i int) bool { return w.says(f.Args[i], values) }
	switch f.Op {
	case api.FormTrue:
		return true
	case api.FormAtom:
		return w.answer("atom "+f.Terms[0].Name, w.terms(f.Terms[0].Args, values), 2) == 1
	case api.FormEq:
		return w.term(f.Terms[0], values) == w.term(f.Terms[1], values)
	case api.FormNot:
		return !part(0)
	case api.FormAnd:
		return !slices.ContainsFunc(f.Args, func(g api.Form) bool { return !w.says(g, values) })
	case api.FormOr:
		return slices.ContainsFunc(f.Args, func(g api.Form) bool { return w.says(g, values) })
	case api.FormImplies:
		return !part(0) || part(1)
	case api.FormIff:
		return part(0) == part(1)
	case api.FormXor:
		return part(0) != part(1)
	case api.FormAll:
		return w.bound(f.Vars, f.Args[0], values, true)
	case api.FormSome:
		return !w.bound(f.Vars, f.Args[0], values, false)
	}
	return false
}

// bound: does the formula say so for all values of the variables?
func (w world) bound(vars []string, f api.Form, values map[string]int, so bool) bool {
	if len(vars) == 0 {
		return w.says(f, values) == so
	}
	old, ok := values[vars[0]]
	defer func() {
		if delete(values, vars[0]); ok {
			values[vars[0]] = old
		}
	}()
	for x := range w.size {
		values[vars[0]] = x
		if !w.bound(vars[1:], f, values, so) {
			return false
		}
	}
	return true
}

// nested is how many variables are bound around one another at most.
func nested(f api.Form) int {
	n := 0
	for _, g := range f.Args {
		n = max(n, nested(g))
	}
	return n + len(f.Vars)
}

// agree holds two formulas against each other in interpretations, for all values of the free variables of both. It tells of how many the first one is true.
func agree(t *testing.T, what string, f, g api.Form, worlds ...world) (yes, no int) {
	t.Helper()
	free := formula.Free(and(f, g))
	for _, w := range worlds {
		rows := 1
		for range free {
			rows *= w.size
		}
		for row := range min(rows, 64) {
			values := map[string]int{}
			for _, x := range free {
				values[x] = row % w.size
				row /= w.size
			}
			one, two := w.says(f, values), w.says(g, values)
			if one != two {
				t.Fatalf("%s of %s: %s is %v, not %v, in %v for %v", what, show(f), show(g), two, one, w, values)
			}
			if one {
				yes++
			} else {
				no++
			}
		}
	}
	return yes, no
}

// isSimple is the chapter's word.
func isSimple(f api.Form) bool {
	return f.Op == api.FormTrue || f.Op == api.FormFalse || nothingLeft(f)
}

func nothingLeft(f api.Form) bool {
	if f.Op == api.FormTrue || f.Op == api.FormFalse {
		return false
	}
	for _, x := range f.Vars {
		if !slices.Contains(formula.Free(f.Args[0]), x) {
			return false
		}
	}
	for _, g := range f.Args {
		if g.Op == f.Op && (f.Op == api.FormNot || f.Op == api.FormAnd || f.Op == api.FormOr) || !nothingLeft(g) {
			return false
		}
	}
	return true
}

// isInside: without Implies, Iff, Xor, and without Not but ahead of an Atom or an Eq?
func isInside(f api.Form) bool {
	switch f.Op {
	case api.FormImplies, api.FormIff, api.FormXor:
		return false
	case api.FormNot:
		return f.Args[0].Op == api.FormAtom || f.Args[0].Op == api.FormEq
	}
	return !slices.ContainsFunc(f.Args, func(g api.Form) bool { return !isInside(g) })
}

// binders are the names that are bound, as the formula is read.
func binders(f api.Form) []string {
	l := slices.Clone(f.Vars)
	for _, g := range f.Args {
		l = append(l, binders(g)...)
	}
	return l
}

// isApart: does no name stand twice among those that are bound, and none that is free?
func isApart(f api.Form) bool {
	l := append(binders(f), formula.Free(f)...)
	n := len(l)
	slices.Sort(l)
	return len(slices.Compact(l)) == n
}

func sorted(l []string) []string {
	slices.Sort(l)
	return l
}

// laws holds P15.4 and P15.5 of a formula that may be here.
func laws(t *testing.T, f api.Form, worlds ...world) (yes, no int) {
	t.Helper()
	s, a := made(t, simple(), f), made(t, apart(), f)
	free := formula.Free(f)
	if !isSimple(s) || formula.Size(s) > formula.Size(f) || slices.ContainsFunc(formula.Free(s), func(x string) bool { return !slices.Contains(free, x) }) {
		t.Errorf("Simple of %s: %s", show(f), show(s))
	}
	becomes(t, simple(), s, s)
	if isSimple(f) {
		becomes(t, simple(), f, f)
	}
	if !isApart(a) || formula.Size(a) != formula.Size(f) || !slices.Equal(formula.Free(a), free) || !same(unnamed(a), unnamed(f)) {
		t.Errorf("Apart of %s: %s", show(f), show(a))
	}
	becomes(t, apart(), a, a)
	agree(t, "Simple", f, s, worlds...)
	if outside(f) <= api.MaxNodes {
		i := made(t, inside(), f)
		if !isInside(i) || !slices.Equal(sorted(formula.Free(i)), sorted(free)) {
			t.Errorf("Inside of %s: %s", show(f), show(i))
		}
		if depth(i) <= 200 {
			becomes(t, inside(), i, i)
		}
		if isInside(f) {
			becomes(t, inside(), f, f)
		}
		agree(t, "Inside", f, i, worlds...)
	}
	return agree(t, "Apart", f, a, worlds...)
}

// unnamed is a formula with one name for all that is bound or a variable.
func unnamed(f api.Form) api.Form {
	g := api.Form{Op: f.Op, Vars: many(len(f.Vars), "V")}
	var term func(x api.Expr) api.Expr
	term = func(x api.Expr) api.Expr {
		if x.Var {
			return v("V")
		}
		y := of(x.Name)
		for _, a := range x.Args {
			y.Args = append(y.Args, term(a))
		}
		return y
	}
	for _, x := range f.Terms {
		g.Terms = append(g.Terms, term(x))
	}
	for _, h := range f.Args {
		g.Args = append(g.Args, unnamed(h))
	}
	return g
}

// TestLawsOfSmallFormulas: of all of them.
func TestLawsOfSmallFormulas(t *testing.T) {
	yes, no, simples, insides, aparts := 0, 0, 0, 0, 0
	for i, f := range smallOnes(6) {
		y, n := laws(t, f, world{1, i}, world{2, i}, world{2, i + 1}, world{3, i})
		yes, no = yes+y, no+n
		if isSimple(f) {
			simples++
		}
		if isInside(f) {
			insides++
		}
		if isApart(f) {
			aparts++
		}
	}
	if min(yes, no) < 10000 || min(simples, insides, aparts) < 60 {
		t.Error(yes, no, simples, insides, aparts)
	}
}

// TestLawsOfPlainFormulas: of such without variables, for all values of their atoms.
func TestLawsOfPlainFormulas(t *testing.T) {
	atoms := []api.Form{atom("a"), atom("b"), atom("c"), yes(), no()}
	var l []api.Form
	for _, f := range atoms {
		for _, g := range atoms {
			l = append(l, and(f, g), or(f, g), implies(f, g), iff(f, g), xor(f, g), not(f))
		}
	}
	// of three atoms all eight rows of values come, and each one often
	var worlds []world
	rows := map[int]int{}
	for seed := range 60 {
		w := world{1, seed}
		row := 0
		for i := range 3 {
			if w.says(atoms[i], nil) {
				row |= 1 << i
			}
		}
		if rows[row]++; rows[row] < 3 {
			worlds = append(worlds, w)
		}
	}
	if len(rows) != 8 || len(worlds) < 15 {
		t.Fatal(rows)
	}
	for i, f := range l {
		for j := i % 5; j < len(l); j += 5 {
			g := l[j]
			for _, h := range []api.Form{iff(f, g), not(xor(f, g)), implies(f, not(g)), or(not(f), and(g, f))} {
				laws(t, h, worlds...)
			}
		}
	}
}

// TestLawsOfLargeFormulas.
func TestLawsOfLargeFormulas(t *testing.T) {
	yes, no, held := 0, 0, 0
	for i, f := range thrown(153, 3500) {
		if nested(f) > 9 || formula.Size(f) > 600 {
			laws(t, f)
			continue
		}
		y, n := laws(t, f, world{1, i}, world{2, i})
		yes, no, held = yes+y, no+n, held+1
	}
	if min(yes, no) < 8000 || held < 1500 {
		t.Error(yes, no, held)
	}
}

// TestWorldsTellApart: what is not the same is found not to be, so that agree says something.
func TestWorldsTellApart(t *testing.T) {
	p, q := atom("p", v("X")), atom("q", v("X"))
	for _, pair := range [][2]api.Form{
		{p, not(p)}, {and(p, q), or(p, q)}, {implies(p, q), implies(q, p)}, {iff(p, q), xor(p, q)}, {all("X", p), some("X", p)}, {all("X", p), p}, {yes(), no()},
		{all("X", some("Y", eq(v("X"), of("f", v("Y"))))), some("Y", all("X", eq(v("X"), of("f", v("Y")))))}, {atom("p", v("X")), atom("p", v("Y"))}, {eq(v("X"), v("Y")), eq(v("X"), of("a"))},
	} {
		found := false
		for seed := range 50 {
			w := world{3, seed}
			for row := range 9 {
				values := map[string]int{"X": row % 3, "Y": row / 3}
				found = found || w.says(pair[0], values) != w.says(pair[1], values)
			}
		}
		if !found {
			t.Errorf("%s and %s are taken for the same", show(pair[0]), show(pair[1]))
		}
	}
}
