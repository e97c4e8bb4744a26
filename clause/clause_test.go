package clause_test

import (
	"fmt"
	"math"
	"slices"
	"testing"

	"syllogism/api"
	"syllogism/clause"
)

// The symbols of the chapter's examples, and more of each kind.
const (
	a = 1 + iota
	f
	p
	b
	g
	q // a predicate without arguments
	r // one with two
)

func sig() api.Sig {
	return api.Sig{Syms: []api.Sym{
		{Name: "$true", Pred: true}, {Name: "a"}, {Name: "f", Arity: 2}, {Name: "p", Arity: 1, Pred: true},
		{Name: "b"}, {Name: "g", Arity: 1}, {Name: "q", Pred: true}, {Name: "r", Arity: 2, Pred: true},
	}}
}

func of(n int, args ...api.Term) api.Term { return api.Term{Fun: n, Args: args} }
func x(k int, args ...api.Term) api.Term  { return api.Term{Fun: -1 - k, Args: args} }

func eq(l, r api.Term) api.Lit { return api.Lit{L: l, R: r} }
func ne(l, r api.Term) api.Lit { return api.Lit{Neg: true, L: l, R: r} }
func atom(t api.Term) api.Lit  { return eq(t, of(0)) }
func deny(t api.Term) api.Lit  { return ne(t, of(0)) }

func turn(l api.Lit) api.Lit { return api.Lit{Neg: l.Neg, L: l.R, R: l.L} }

func lits(l ...api.Lit) api.Clause { return l }

// nest is g so many times around a term.
func nest(n int, t api.Term) api.Term {
	for range n {
		t = of(g, t)
	}
	return t
}

// broad is a term of that size, and nearly as flat as it can be.
func broad(size int) api.Term {
	switch {
	case size == 1:
		return of(a)
	case size == 2:
		return of(g, of(a))
	}
	left := (size-1)/2 | 1
	return of(f, broad(left), broad(size-1-left))
}

// many is a literal so many times.
func many(n int, l api.Lit) api.Clause {
	var c api.Clause
	for range n {
		c = append(c, l)
	}
	return c
}

// same holds two terms against each other by themselves, without the program.
func same(s, t api.Term) bool { return s.Fun == t.Fun && slices.EqualFunc(s.Args, t.Args, same) }

func sameLit(l, m api.Lit) bool { return l.Neg == m.Neg && same(l.L, m.L) && same(l.R, m.R) }

// show tells something, and of what is long how it begins.
func show(v any) string { return fmt.Sprintf("%.300s", fmt.Sprint(v)) }

// all takes what an iterator tells.
func all(c api.Clause) ([]int, api.Clause) {
	var at []int
	var out api.Clause
	for i, l := range clause.Positive(c) {
		at, out = append(at, i), append(out, l)
	}
	return at, out
}

// example is the clause of the chapter's examples.
func example() api.Clause { return lits(eq(of(f, x(0), of(a)), x(0)), deny(of(p, of(a)))) }

func TestExamples(t *testing.T) {
	if got, e := clause.Text(sig(), example()); got != "f(X0,a) = X0 | ~ p(a)" || e != api.OK {
		t.Error(got, e)
	}
	if got, e := clause.Text(sig(), nil); got != "$false" || e != api.OK {
		t.Error(got, e)
	}
	if got := clause.Size(example()); got != 6 {
		t.Error(got)
	}
	if !clause.Variant(lits(eq(x(0), x(1))), lits(eq(x(1), x(0)))) {
		t.Error("X0 = X1 and X1 = X0 are variants")
	}
	if !clause.Alike(lits(eq(x(0), of(a))), lits(eq(of(a), x(3)))) {
		t.Error("X0 = a and a = X3 are alike")
	}
	if clause.Alike(lits(atom(of(p, x(0))), atom(of(p, x(1)))), lits(atom(of(p, x(0))), atom(of(p, x(0))))) {
		t.Error("p(X0) | p(X1) and p(X0) | p(X0) are not alike")
	}
}

// TestCheckTakes what may be, up to each limit.
func TestCheckTakes(t *testing.T) {
	for _, c := range []api.Clause{
		nil, {}, example(),
		{eq(x(0), x(0))}, {ne(x(47), x(0))}, {eq(of(a), of(b))}, {ne(of(g, x(3)), of(f, x(1), x(2)))}, {eq(x(4), of(g, x(4)))},
		{atom(of(p, x(0)))}, {deny(of(p, of(f, x(0), x(0))))}, {atom(of(q))}, {deny(of(q))}, {atom(of(r, of(a), nest(3, x(9))))},
		{{L: api.Term{Fun: a, Args: []api.Term{}}, R: api.Term{Fun: b, Args: []api.Term{}}}},
		{{L: of(q), R: api.Term{Args: []api.Term{}}}},
		many(16, eq(x(0), of(a))), many(16, deny(of(q))), many(15, atom(of(p, x(1)))),
		{eq(nest(29, x(0)), nest(29, of(a)))}, {atom(of(p, nest(28, x(0))))},
		{eq(broad(299), broad(300))}, {deny(of(p, broad(299)))}, many(16, ne(broad(300), broad(300))),
	} {
		if e := clause.Check(sig(), c); e != api.OK {
			t.Error(show(c), e)
		}
		if got, e := clause.Text(sig(), c); got == "" || e != api.OK {
			t.Error(show(c), got, e)
		}
	}
	for _, c := range []api.Clause{nil, {eq(x(0), x(1))}, {ne(x(0), x(0)), eq(x(47), x(1))}} {
		if e := clause.Check(api.Sig{Syms: sig().Syms[:1]}, c); e != api.OK {
			t.Error("$true alone:", show(c), e)
		}
	}
}

func TestSize(t *testing.T) {
	for _, w := range []struct {
		c    api.Clause
		size int
	}{
		{nil, 0}, {lits(), 0}, {example(), 6},
		{lits(eq(x(0), x(0))), 2}, {lits(ne(x(5), of(a))), 2}, {lits(atom(of(q))), 1}, {lits(deny(of(q))), 1},
		{lits(atom(of(p, x(0)))), 2}, {lits(deny(of(r, x(0), of(f, x(0), x(0))))), 5},
		{lits(eq(of(f, x(0), x(0)), of(f, x(0), x(0)))), 6}, {many(3, eq(of(f, x(0), x(0)), x(0))), 12},
		{lits(eq(of(f, of(a), of(b)), of(g, x(1))), atom(of(q)), deny(of(p, of(a)))), 8},
		{many(16, eq(broad(300), broad(299))), 16 * 599},
		// $true: as R it counts 0, without arguments; as L, or with arguments, it counts as any other symbol.
		{lits(eq(of(0), of(0))), 1}, {lits(ne(of(0), of(0))), 1}, {lits(eq(of(0), of(a))), 2}, {lits(eq(of(0), of(p, of(a)))), 3},
		{lits(eq(of(a), of(0, of(b)))), 3}, {lits(eq(of(0, of(b)), of(0))), 2}, {lits(eq(of(0, of(b)), of(0, of(b)))), 4},
		{lits(eq(of(0), of(0, of(0)))), 3}, {lits(eq(of(p, of(0)), of(g, of(0)))), 4}, {lits(eq(x(0), of(0))), 1},
		{lits(eq(of(a), api.Term{Args: []api.Term{}})), 1}, {many(5, eq(of(0), of(0))), 5},
		{many(1000, ne(of(g, of(0)), of(0))), 2000},
	} {
		if got := clause.Size(w.c); got != w.size {
			t.Error(show(w.c), got, w.size)
		}
	}
}

func TestVars(t *testing.T) {
	for _, w := range []struct {
		c    api.Clause
		vars []int
	}{
		{nil, nil}, {lits(), nil}, {lits(eq(of(a), of(b)), atom(of(q))), nil}, {example(), []int{0}},
		{lits(eq(x(0), x(0))), []int{0}}, {lits(eq(x(9), x(3))), []int{3, 9}}, {lits(ne(x(3), x(9))), []int{3, 9}},
		{lits(eq(of(a), x(7))), []int{7}}, {lits(eq(x(7), of(a))), []int{7}}, {lits(deny(of(r, x(2), x(1)))), []int{1, 2}},
		{lits(eq(x(2), of(f, x(10), x(2))), ne(of(g, x(10)), x(1)), atom(of(p, x(2))), eq(x(1), x(47))), []int{1, 2, 10, 47}},
		{many(16, eq(of(f, x(5), x(4)), of(f, x(4), x(5)))), []int{4, 5}},
		{lits(eq(x(11), of(a)), eq(x(2), of(a)), eq(x(10), of(a)), eq(x(1), of(a)), eq(x(0), x(20))), []int{0, 1, 2, 10, 11, 20}},
		{lits(deny(of(p, nest(20, of(f, x(6), nest(5, x(3))))))), []int{3, 6}},
		{lits(eq(of(0), x(3)), eq(of(0, x(1)), of(0, x(2)))), []int{1, 2, 3}},
		{lits(eq(x(1, x(3)), x(2, x(1), x(0)))), []int{0, 1, 2, 3}},
		{lits(eq(x(math.MaxInt), x(math.MaxInt-1)), eq(x(math.MaxInt32), x(0))), []int{0, math.MaxInt32, math.MaxInt - 1, math.MaxInt}},
	} {
		if got := clause.Vars(w.c); !slices.Equal(got, w.vars) {
			t.Error(show(w.c), got, w.vars)
		}
	}
}

func TestPositive(t *testing.T) {
	one, two, three := eq(x(0), of(g, of(a))), atom(of(p, x(1))), eq(of(0), of(0))
	no, nor := ne(x(0), of(a)), deny(of(q))
	for _, w := range []struct {
		c  api.Clause
		at []int
	}{
		{nil, nil}, {lits(), nil}, {lits(no), nil}, {lits(one), []int{0}}, {lits(no, nor, no), nil}, {lits(one, two, three), []int{0, 1, 2}},
		{lits(no, one, nor, two, one), []int{1, 3, 4}}, {lits(two, no), []int{0}}, {lits(nor, nor, two), []int{2}},
		{many(40, one), nil}, {many(17, no), nil},
	} {
		at, l := all(w.c)
		if len(w.c) == 40 {
			for i := range 40 {
				w.at = append(w.at, i)
			}
		}
		if !slices.Equal(at, w.at) {
			t.Error(show(w.c), at, w.at)
		}
		for k, i := range at {
			if !sameLit(l[k], w.c[i]) {
				t.Error(show(w.c), i, l[k])
			}
		}
	}
}

// TestPositiveLeftEarly: behind each of them it may be left, and gone over again from the first one on.
func TestPositiveLeftEarly(t *testing.T) {
	told := clause.Positive(lits(ne(x(0), of(a)), eq(x(1), of(a)), atom(of(q)), deny(of(q)), eq(x(2), x(2))))
	want := []int{1, 2, 4}
	for n := range 5 {
		var at []int
		for i := range told {
			if len(at) == n {
				break
			}
			at = append(at, i)
		}
		if !slices.Equal(at, want[:min(n, 3)]) {
			t.Error(n, at)
		}
	}
	for i := range told {
		for j := range told {
			if j > i {
				break
			}
		}
	}
}

func TestSame(t *testing.T) {
	c := lits(eq(of(f, x(0), of(a)), x(1)), deny(of(p, of(a))))
	if !clause.Same(nil, lits()) || !clause.Same(lits(), nil) || !clause.Same(nil, nil) || !clause.Same(c, slices.Clone(c)) {
		t.Error("they are the same")
	}
	for _, d := range []api.Clause{
		nil, c[:1], c[1:], lits(c[1], c[0]), append(slices.Clone(c), c[0]), append(slices.Clone(c), c[1]), lits(c[0], c[0]),
		lits(turn(c[0]), c[1]), lits(c[0], turn(c[1])), lits(c[0], atom(of(p, of(a)))), lits(ne(c[0].L, c[0].R), c[1]),
		lits(eq(of(f, x(1), of(a)), x(0)), c[1]), lits(eq(of(f, x(0), of(b)), x(1)), c[1]), lits(eq(of(f, x(0), of(a)), x(2)), c[1]),
		lits(eq(of(f, x(0), of(a)), x(1, of(a))), c[1]), lits(eq(of(f, x(0)), x(1)), c[1]), lits(c[0], deny(of(p, of(a), of(a)))),
		lits(c[0], deny(of(p, of(b)))), lits(c[0], ne(of(p, of(a)), of(0, of(a)))), lits(c[0], ne(of(p, of(a)), of(a))),
	} {
		if clause.Same(c, d) || clause.Same(d, c) {
			t.Error(show(d))
		}
		if !clause.Same(d, slices.Clone(d)) {
			t.Error(show(d), "is itself")
		}
	}
	none := lits(api.Lit{L: api.Term{Fun: a, Args: []api.Term{}}, R: api.Term{Args: []api.Term{}}})
	if !clause.Same(none, lits(atom(of(a)))) {
		t.Error("no arguments are none, there or not")
	}
}

func TestText(t *testing.T) {
	for _, w := range []struct {
		c    api.Clause
		text string
	}{
		{nil, "$false"}, {lits(), "$false"},
		{lits(eq(of(a), x(0))), "a = X0"}, {lits(ne(of(a), x(0))), "a != X0"},
		{lits(atom(of(q))), "q"}, {lits(deny(of(q))), "~ q"},
		{lits(atom(of(r, x(0), of(f, x(47), of(b))))), "r(X0,f(X47,b))"}, {lits(deny(of(p, of(g, of(g, of(a)))))), "~ p(g(g(a)))"},
		{lits(eq(of(g, x(10)), of(f, of(a), of(b)))), "g(X10) = f(a,b)"}, {lits(ne(x(3), x(3))), "X3 != X3"},
		{lits(atom(of(q)), atom(of(q))), "q | q"}, {lits(deny(of(q)), ne(x(1), x(0)), eq(x(1), x(0)), atom(of(p, x(1)))), "~ q | X1 != X0 | X1 = X0 | p(X1)"},
		{many(16, deny(of(q))), "~ q | ~ q | ~ q | ~ q | ~ q | ~ q | ~ q | ~ q | ~ q | ~ q | ~ q | ~ q | ~ q | ~ q | ~ q | ~ q"},
	} {
		if got, e := clause.Text(sig(), w.c); got != w.text || e != api.OK {
			t.Error(show(w.c), got, w.text, e)
		}
	}
	names := api.Sig{Syms: []api.Sym{{Name: "$true", Pred: true}, {Name: "Up_1"}, {Name: "0"}, {Name: "_", Arity: 1, Pred: true}}}
	if got, e := clause.Text(names, lits(eq(of(1), of(2)), atom(of(3, of(1))))); got != "Up_1 = 0 | _(Up_1)" || e != api.OK {
		t.Error(got, e)
	}
}
