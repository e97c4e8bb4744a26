package subst_test

import (
	"fmt"
	"math"
	"slices"
	"testing"

	"syllogism/api"
	"syllogism/subst"
	"syllogism/term"
)

const (
	a = 1
	f = 2
)

const most = math.MaxInt32

func of(n int, args ...api.Term) api.Term { return api.Term{Fun: n, Args: args} }
func x(k int, args ...api.Term) api.Term  { return api.Term{Fun: -1 - k, Args: args} }

func bind(v int, t api.Term) api.Bind { return api.Bind{Var: v, T: t} }
func eq(l, r api.Term) api.Lit        { return api.Lit{L: l, R: r} }
func not(l, r api.Term) api.Lit       { return api.Lit{Neg: true, L: l, R: r} }
func lits(l ...api.Lit) api.Clause    { return l }
func binds(l ...api.Bind) api.Subst   { return l }
func showAll(c api.Clause) (s string) { return fmt.Sprint(len(c), each(c, showLit)) }
func showLit(l api.Lit) string        { return fmt.Sprint(l.Neg, show(l.L), show(l.R)) }
func showSubst(s api.Subst) string    { return fmt.Sprint(len(s), each(s, showBind)) }
func showBind(b api.Bind) string      { return fmt.Sprint(b.Var, ":=", show(b.T)) }
func each[E any](l []E, f func(E) string) []string {
	var out []string
	for _, e := range l {
		out = append(out, f(e))
	}
	return out
}

// show writes a term by its numbers, so that two are the same just if what is shown is.
func show(t api.Term) string { return fmt.Sprint(t.Fun, each(t.Args, show)) }

func composed(t testing.TB, a, b api.Subst) api.Subst {
	t.Helper()
	s, e := subst.Compose(a, b)
	if e != api.OK {
		t.Fatal("Compose", showSubst(a), showSubst(b), e)
	}
	if e := subst.Check(s); e != api.OK {
		t.Fatal("Compose answers what may not be", showSubst(a), showSubst(b), showSubst(s))
	}
	return s
}

// smallTerms is the terms of X0, X1, X2, a, f(.., ..) of two of these, and f(f(.., ..), ..).
func smallTerms() []api.Term {
	l := []api.Term{x(0), x(1), x(2), of(a)}
	for _, s := range l[:4:4] {
		for _, t := range l[:4] {
			l = append(l, of(f, s, t))
		}
	}
	return append(l, of(f, of(f, x(0), x(1)), x(2)), of(f, x(2), of(f, x(1), of(f, x(0), x(1)))))
}

// smallSubsts is all substitutions of X0, X1, X2 that bind each to one of some terms, or not.
func smallSubsts() []api.Subst {
	values := []api.Term{x(0), x(1), x(2), of(a), of(f, x(0), x(1)), of(f, x(2), of(a))}
	l := []api.Subst{nil}
	for v := range 3 {
		for _, s := range slices.Clone(l) {
			for _, t := range values {
				if show(t) != show(x(v)) {
					l = append(l, append(slices.Clone(s), bind(v, t)))
				}
			}
		}
	}
	return l
}

// naive puts in by going through all binds for each variable.
func naive(s api.Subst, t api.Term) api.Term {
	for _, b := range s {
		if t.Fun == -1-b.Var && t.Fun < 0 {
			return b.T
		}
	}
	out := api.Term{Fun: t.Fun}
	for _, c := range t.Args {
		out.Args = append(out.Args, naive(s, c))
	}
	return out
}

func TestExamples(t *testing.T) {
	if got := subst.Apply(binds(bind(0, x(1)), bind(1, of(a))), of(f, x(0), x(1))); show(got) != show(of(f, x(1), of(a))) {
		t.Error("Apply", show(got))
	}
	if got := composed(t, binds(bind(0, x(1))), binds(bind(1, of(a)))); showSubst(got) != showSubst(binds(bind(0, of(a)), bind(1, of(a)))) {
		t.Error("Compose", showSubst(got))
	}
	if got := composed(t, binds(bind(0, x(1))), binds(bind(1, x(0)))); showSubst(got) != showSubst(binds(bind(1, x(0)))) {
		t.Error("Compose", showSubst(got))
	}
	c, s := subst.Normal(lits(eq(of(f, x(5), x(2)), x(5))))
	if showAll(c) != showAll(lits(eq(of(f, x(0), x(1)), x(0)))) || showSubst(s) != showSubst(binds(bind(2, x(1)), bind(5, x(0)))) {
		t.Error("Normal", showAll(c), showSubst(s))
	}
	if e := subst.Check(binds(bind(1, of(a)), bind(0, of(a)))); e != api.ErrArg {
		t.Error("Check", e)
	}
	if e := subst.Check(binds(bind(0, x(0)))); e != api.ErrArg {
		t.Error("Check", e)
	}
}

// wrong is substitutions that may not be.
func wrong() []api.Subst {
	return []api.Subst{
		binds(bind(-1, of(a))),
		binds(bind(math.MinInt, of(a))),
		binds(bind(-1, of(0))),
		binds(bind(-2, of(a)), bind(0, of(a))),
		binds(bind(1, of(a)), bind(0, of(a))),
		binds(bind(0, of(a)), bind(2, of(a)), bind(1, of(a))),
		binds(bind(3, of(a)), bind(3, of(a))),
		binds(bind(3, of(a)), bind(3, x(1))),
		binds(bind(0, of(a)), bind(-1, of(a))),
		binds(bind(0, x(0))),
		binds(bind(0, of(a)), bind(7, x(7))),
		binds(bind(7, api.Term{Fun: -8, Args: []api.Term{}})),
		binds(bind(math.MaxInt, x(math.MaxInt))),
		binds(bind(2, x(2)), bind(3, of(a))),
	}
}

// right is substitutions that may be, with terms that may not.
func right() []api.Subst {
	return []api.Subst{
		nil,
		{},
		binds(bind(0, of(a))),
		binds(bind(0, of(f, x(0), x(0)))),
		binds(bind(0, x(0, of(a)))),
		binds(bind(0, x(1)), bind(1, x(0))),
		binds(bind(0, x(2)), bind(1, x(0)), bind(2, x(1))),
		binds(bind(2, x(3)), bind(95, of(f)), bind(96, of(-77, of(1000000)))),
		binds(bind(most, of(a)), bind(math.MaxInt, of(math.MaxInt))),
		binds(bind(1, of(math.MinInt))),
		binds(bind(5, of(0)), bind(6, of(f, of(0), x(1000)))),
	}
}

func TestCheck(t *testing.T) {
	for _, s := range wrong() {
		if e := subst.Check(s); e != api.ErrArg {
			t.Error(showSubst(s), e)
		}
	}
	for _, s := range append(right(), smallSubsts()...) {
		if e := subst.Check(s); e != api.OK {
			t.Error(showSubst(s), e)
		}
	}
}

func TestGet(t *testing.T) {
	for _, s := range slices.Concat(right(), wrong(), odd()) {
		for _, v := range []int{math.MinInt, -3, -2, -1, 0, 1, 2, 3, 4, 5, 6, 7, 8, 95, 96, 97, most, math.MaxInt} {
			i := slices.IndexFunc(s, func(b api.Bind) bool { return b.Var == v })
			want, there := api.Term{}, i >= 0
			if there {
				want = s[i].T
			}
			if got, ok := subst.Get(s, v); show(got) != show(want) || ok != there {
				t.Error(showSubst(s), v, show(got), ok)
			}
		}
	}
}

// odd is lists of binds in all orders, some variables twice with other terms: the first of each counts.
func odd() []api.Subst {
	var l []api.Subst
	values := []int{-2, 0, 1, 1}
	for i := range 256 {
		var s api.Subst
		for n := i; n > 0; n /= 4 {
			s = append(s, bind(values[n%4], of(f, x(2), of(len(s)))))
		}
		l = append(l, s)
	}
	return append(l, binds(bind(2, of(1)), bind(1, of(2)), bind(2, of(3)), bind(0, of(4)), bind(1, of(5)), bind(2, of(6))))
}

func TestApply(t *testing.T) {
	terms := append(smallTerms(), of(0), of(math.MaxInt, x(0)), x(most), x(math.MaxInt), x(95), x(3, x(0), x(7)), x(0, x(1)), of(-1000, x(2)), of(f, x(2, x(1)), x(3, x(1))))
	for _, s := range slices.Concat(right(), wrong(), odd(), smallSubsts()) {
		for _, c := range terms {
			if got := subst.Apply(s, c); show(got) != show(naive(s, c)) {
				t.Error(showSubst(s), show(c), show(got))
			}
		}
	}
}

func TestLitClause(t *testing.T) {
	s := binds(bind(0, of(f, x(0), x(1))), bind(1, x(0)), bind(2, of(0)))
	l := not(of(f, x(1), x(0)), x(1))
	want := not(of(f, x(0), of(f, x(0), x(1))), x(0))
	if got := subst.Lit(s, l); showLit(got) != showLit(want) {
		t.Error(showLit(got))
	}
	if got := subst.Lit(s, api.Lit{}); showLit(got) != showLit(api.Lit{}) {
		t.Error(showLit(got))
	}
	if got := subst.Lit(nil, l); showLit(got) != showLit(l) {
		t.Error(showLit(got))
	}
	c := lits(l, eq(of(3, x(0)), of(0)), eq(x(2), x(3)), l)
	all := lits(want, eq(of(3, of(f, x(0), x(1))), of(0)), eq(of(0), x(3)), want)
	if got := subst.Clause(s, c); showAll(got) != showAll(all) {
		t.Error(showAll(got))
	}
	if got := subst.Clause(nil, c); showAll(got) != showAll(c) {
		t.Error(showAll(got))
	}
	if got := subst.Clause(s, api.Clause{}); len(got) != 0 {
		t.Error(showAll(got))
	}
	if got := subst.Clause(s, nil); len(got) != 0 {
		t.Error(showAll(got))
	}
	twice := binds(bind(1, of(a)), bind(0, x(1)), bind(1, of(7)))
	if got := subst.Clause(twice, lits(eq(x(0), x(1)))); showAll(got) != showAll(lits(eq(x(1), of(a)))) {
		t.Error(showAll(got))
	}
}

// TestLongClause: of more literals than clauses may have.
func TestLongClause(t *testing.T) {
	var c, want api.Clause
	for i := range 100 {
		c, want = append(c, eq(x(i), x(0))), append(want, eq(x(i), of(a)))
	}
	want[0].L = of(a)
	if got := subst.Clause(binds(bind(0, of(a))), c); showAll(got) != showAll(want) {
		t.Error(showAll(got))
	}
}

func TestComposeErrors(t *testing.T) {
	fine := binds(bind(0, of(a)))
	for _, s := range wrong() {
		for _, p := range [][2]api.Subst{{s, fine}, {fine, s}, {s, nil}, {nil, s}, {s, s}} {
			if got, e := subst.Compose(p[0], p[1]); e != api.ErrArg || got != nil {
				t.Error(showSubst(p[0]), showSubst(p[1]), showSubst(got), e)
			}
		}
	}
}

func TestCompose(t *testing.T) {
	for i, p := range []struct{ a, b, want api.Subst }{
		{nil, nil, nil},
		{nil, binds(bind(3, x(1))), binds(bind(3, x(1)))},
		{binds(bind(3, x(1))), api.Subst{}, binds(bind(3, x(1)))},
		{binds(bind(0, x(1))), binds(bind(0, of(a))), binds(bind(0, x(1)))},
		{binds(bind(5, x(1))), binds(bind(2, of(a))), binds(bind(2, of(a)), bind(5, x(1)))},
		{binds(bind(0, of(f, x(0), x(1)))), binds(bind(0, of(a)), bind(1, x(0))), binds(bind(0, of(f, of(a), x(0))), bind(1, x(0)))},
		{binds(bind(0, x(1)), bind(1, x(0))), binds(bind(0, x(1)), bind(1, x(0))), nil},
		{binds(bind(1, x(7)), bind(4, of(a))), binds(bind(0, x(3)), bind(7, x(1))), binds(bind(0, x(3)), bind(4, of(a)), bind(7, x(1)))},
		{binds(bind(1, x(1, x(0)))), binds(bind(0, of(a))), binds(bind(0, of(a)), bind(1, x(1, of(a))))},
	} {
		if got := composed(t, p.a, p.b); showSubst(got) != showSubst(p.want) {
			t.Error(i, showSubst(got))
		}
	}
}

func TestComposeIsBoth(t *testing.T) {
	l, terms := smallSubsts(), smallTerms()
	for i, s := range l {
		if showSubst(composed(t, s, nil)) != showSubst(s) || showSubst(composed(t, nil, s)) != showSubst(s) {
			t.Error("with the empty one", showSubst(s))
		}
		for j, u := range l {
			if (i+3*j)%5 != 0 {
				continue
			}
			both := composed(t, s, u)
			for _, c := range terms {
				if got, want := subst.Apply(both, c), naive(u, naive(s, c)); show(got) != show(want) {
					t.Fatal(showSubst(s), showSubst(u), show(c), show(got), show(want))
				}
			}
		}
	}
}

func TestComposeAssociative(t *testing.T) {
	l := smallSubsts()
	for i := 0; i < len(l); i += 5 {
		for j := 1; j < len(l); j += 7 {
			both := composed(t, l[i], l[j])
			for k := 2; k < len(l); k += 11 {
				left, right := composed(t, both, l[k]), composed(t, l[i], composed(t, l[j], l[k]))
				if showSubst(left) != showSubst(right) || !subst.Same(left, right) {
					t.Fatal(showSubst(l[i]), showSubst(l[j]), showSubst(l[k]))
				}
			}
		}
	}
}

func TestMove(t *testing.T) {
	for _, p := range []struct{ from, by, to int }{
		{0, 48, 48}, {47, 48, 95}, {0, 0, 0}, {5, 0, 5}, {5, -5, 0}, {5, -6, 5}, {5, -4, 1},
		{0, -1, 0}, {0, most, most}, {0, most + 1, 0}, {1, most, 1}, {1, most - 1, most}, {1, -1, 0},
		{most, 0, most}, {most, 1, most}, {most - 1, 1, most}, {most, -most, 0}, {most, -most - 1, most},
		{most, -1, most - 1}, {most + 1, -1, most}, {most + 1, 0, most + 1}, {most + 2, -1, most + 2},
		{3, math.MaxInt, 3}, {3, math.MinInt, 3}, {math.MaxInt, math.MaxInt, math.MaxInt},
		{math.MaxInt, math.MinInt, math.MaxInt}, {math.MaxInt, -math.MaxInt, 0}, {math.MaxInt, 1, math.MaxInt}, {0, math.MinInt, 0},
	} {
		if got := subst.Move(x(p.from), p.by); show(got) != show(x(p.to)) {
			t.Error(p, show(got))
		}
	}
	got := subst.Move(of(f, x(0), of(f, of(a), x(2, x(1), of(0)))), 48)
	if want := of(f, x(48), of(f, of(a), x(50, x(49), of(0)))); show(got) != show(want) {
		t.Error(show(got))
	}
	if got := subst.Move(of(f, x(1), of(f, x(4), x(3))), -3); show(got) != show(of(f, x(1), of(f, x(1), x(0)))) {
		t.Error(show(got))
	}
}

func TestNormal(t *testing.T) {
	for i, p := range []struct {
		c, want api.Clause
		s       api.Subst
	}{
		{nil, nil, nil},
		{lits(eq(of(a), of(0))), lits(eq(of(a), of(0))), nil},
		{lits(eq(of(f, x(0), x(1)), x(0)), not(x(2), x(1))), lits(eq(of(f, x(0), x(1)), x(0)), not(x(2), x(1))), nil},
		{lits(eq(x(1), x(0))), lits(eq(x(0), x(1))), binds(bind(0, x(1)), bind(1, x(0)))},
		{lits(eq(x(0), x(2)), eq(x(1), x(2))), lits(eq(x(0), x(1)), eq(x(2), x(1))), binds(bind(1, x(2)), bind(2, x(1)))},
		{lits(not(of(a), x(47))), lits(not(of(a), x(0))), binds(bind(47, x(0)))},
		{lits(not(of(f, of(f, x(9), x(8)), x(9)), of(f, x(7), x(8)))), lits(not(of(f, of(f, x(0), x(1)), x(0)), of(f, x(2), x(1)))), binds(bind(7, x(2)), bind(8, x(1)), bind(9, x(0)))},
		{lits(eq(of(3, x(math.MaxInt)), of(0)), eq(x(most), x(0))), lits(eq(of(3, x(0)), of(0)), eq(x(1), x(2))), binds(bind(0, x(2)), bind(most, x(1)), bind(math.MaxInt, x(0)))},
		{lits(eq(x(3, x(5)), x(5, x(3)))), lits(eq(x(0, x(1)), x(1, x(0)))), binds(bind(3, x(0)), bind(5, x(1)))},
	} {
		c, s := subst.Normal(p.c)
		if showAll(c) != showAll(p.want) || showSubst(s) != showSubst(p.s) {
			t.Error(i, showAll(c), showSubst(s))
		}
	}
}

// renamed gives a clause's variables other numbers, no two the same.
func renamed(c api.Clause, numbers []int) api.Clause {
	var s api.Subst
	for v, n := range numbers {
		s = append(s, bind(v, x(n)))
	}
	var out api.Clause
	for _, l := range c {
		out = append(out, api.Lit{Neg: l.Neg, L: naive(s, l.L), R: naive(s, l.R)})
	}
	return out
}

func TestNormalOfRenamed(t *testing.T) {
	terms := smallTerms()
	for i, l := range terms {
		for j, r := range terms {
			c := lits(api.Lit{Neg: i > j, L: l, R: r}, eq(terms[(i+j)%len(terms)], of(0)))
			n, s := subst.Normal(c)
			if e := subst.Check(s); e != api.OK {
				t.Error("may not be", showAll(c), showSubst(s))
			}
			if got := subst.Clause(s, c); showAll(got) != showAll(n) {
				t.Error("put in", showAll(c), showSubst(s), showAll(got))
			}
			if again, s := subst.Normal(n); showAll(again) != showAll(n) || len(s) != 0 {
				t.Error("again", showAll(c), showAll(again), showSubst(s))
			}
			for _, numbers := range [][]int{{1, 0, 2}, {2, 1, 0}, {1, 2, 0}, {47, 3, 5}, {0, 95, 48}, {most, 1, 0}} {
				if m, _ := subst.Normal(renamed(c, numbers)); showAll(m) != showAll(n) {
					t.Error("renamed", showAll(c), numbers, showAll(m))
				}
			}
		}
	}
}

func TestSame(t *testing.T) {
	if !subst.Same(nil, api.Subst{}) || !subst.Same(nil, nil) {
		t.Error("nil and empty")
	}
	all := slices.Concat(smallSubsts(), wrong(), odd(), right())
	for i, s := range all {
		for _, u := range append(all[i:min(i+9, len(all))], all[i/2], nil) {
			if same := showSubst(s) == showSubst(u); subst.Same(s, u) != same || subst.Same(u, s) != same {
				t.Error(showSubst(s), showSubst(u))
			}
		}
	}
	one, other := binds(bind(0, of(a)), bind(1, of(a))), binds(bind(1, of(a)), bind(0, of(a)))
	if subst.Same(one, other) || subst.Same(one, one[:1]) || subst.Same(one[:1], one) {
		t.Error("order or length")
	}
	if !subst.Same(other, slices.Clone(other)) {
		t.Error("of any binds")
	}
}

// spoil writes into all of a term, spare room included.
func spoil(t *api.Term) {
	t.Fun = 99
	full := t.Args[:cap(t.Args)]
	for i := range full {
		spoil(&full[i])
	}
}

func spoilAll(c api.Clause) {
	full := c[:cap(c)]
	for i := range full {
		full[i].Neg = true
		spoil(&full[i].L)
		spoil(&full[i].R)
	}
}

func spoilSubst(s api.Subst) {
	full := s[:cap(s)]
	for i := range full {
		full[i].Var = 99
		spoil(&full[i].T)
	}
}

// roomy is a term with spare room behind all its arguments.
func roomy(t api.Term) api.Term {
	if len(t.Args) == 0 {
		return t
	}
	l := make([]api.Term, 0, len(t.Args)+2)
	for _, c := range t.Args {
		l = append(l, roomy(c))
	}
	copy(l[len(l):cap(l)], []api.Term{of(7, of(8)), of(9)})
	return api.Term{Fun: t.Fun, Args: l}
}

// spread tells whether each list of arguments of a term stands by itself.
func spread(ts ...api.Term) bool {
	seen := map[*api.Term]bool{}
	var look func(t api.Term) bool
	look = func(t api.Term) bool {
		for i := range t.Args[:cap(t.Args)] {
			at := &t.Args[:cap(t.Args)][i]
			if seen[at] {
				return false
			}
			seen[at] = true
			if !look(*at) {
				return false
			}
		}
		return true
	}
	for _, t := range ts {
		if !look(t) {
			return false
		}
	}
	return true
}

func TestNothingShared(t *testing.T) {
	g := roomy(of(f, x(1), of(f, of(a), x(0))))
	s := binds(bind(0, g), bind(1, roomy(of(f, of(a), of(a)))), bind(2, g))
	u := binds(bind(1, g), bind(3, roomy(of(f, x(0), x(1)))), bind(4, roomy(of(f, of(a), of(a)))))
	c := make(api.Clause, 0, 4)
	c = append(c, eq(roomy(of(f, x(0), x(0))), x(2)), not(g, g))
	c[:3][2] = eq(g, g)
	before := showSubst(s) + showSubst(u) + showAll(c[:3])
	unchanged := func(what string) {
		t.Helper()
		if now := showSubst(s) + showSubst(u) + showAll(c[:3]); now != before {
			t.Fatal(what, "changes or shares what was handed in")
		}
	}
	for range 2 {
		got, _ := subst.Get(s, 0)
		other, _ := subst.Get(s, 0)
		if !spread(got, other) {
			t.Error("Get shares")
		}
		spoil(&got)
		unchanged("Get")
		applied := subst.Apply(s, of(f, x(0), of(f, x(2), of(5, g, g))))
		if !spread(applied) {
			t.Error("Apply shares within")
		}
		spoil(&applied)
		unchanged("Apply")
		lit := subst.Lit(s, c[0])
		if !spread(lit.L, lit.R) {
			t.Error("Lit shares within")
		}
		spoil(&lit.L)
		spoil(&lit.R)
		unchanged("Lit")
		d := subst.Clause(s, c)
		if !spread(d[0].L, d[0].R, d[1].L, d[1].R) {
			t.Error("Clause shares within")
		}
		spoilAll(d)
		unchanged("Clause")
		for _, p := range [][2]api.Subst{{s, u}, {u, s}, {nil, s}, {s, nil}} {
			both := composed(t, p[0], p[1])
			var all []api.Term
			for _, b := range both {
				all = append(all, b.T)
			}
			if !spread(all...) {
				t.Error("Compose shares within")
			}
			spoilSubst(both)
			unchanged("Compose")
		}
		moved := subst.Move(g, 3)
		spoil(&moved)
		unchanged("Move")
		n, r := subst.Normal(c)
		if !spread(n[0].L, n[0].R, n[1].L, n[1].R) {
			t.Error("Normal shares within")
		}
		spoilAll(n)
		spoilSubst(r)
		unchanged("Normal")
		subst.Check(s)
		subst.Same(s, u)
		unchanged("Check, Same")
	}
}

// TestFallingIsLeft: what falls is put in order for the search alone.
func TestFallingIsLeft(t *testing.T) {
	s := binds(bind(5, of(a)), bind(3, of(f, x(0), x(0))), bind(1, x(2)), bind(3, of(a)))
	before := showSubst(s)
	subst.Get(s, 3)
	subst.Apply(s, x(1))
	subst.Clause(s, lits(eq(x(1), x(3))))
	subst.Compose(s, s)
	if showSubst(s) != before {
		t.Error(showSubst(s))
	}
}

// TestDeep: what is larger than terms may be is put in as well.
func TestDeep(t *testing.T) {
	deep := x(0)
	for range 20000 {
		deep = of(5, deep)
	}
	s := binds(bind(0, deep))
	got := subst.Apply(s, subst.Move(deep, 0))
	if n := term.Size(got); n != 40001 {
		t.Error(n)
	}
	c, r := subst.Normal(lits(eq(subst.Move(deep, 4), x(0))))
	if len(c) != 1 || showSubst(r) != showSubst(binds(bind(0, x(1)), bind(4, x(0)))) {
		t.Error(showSubst(r))
	}
}
