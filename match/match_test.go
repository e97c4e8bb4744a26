package match_test

import (
	"fmt"
	"maps"
	"math"
	"slices"
	"testing"

	"syllogism/api"
	"syllogism/match"
	"syllogism/subst"
	"syllogism/term"
)

const (
	a = 1
	f = 2
	g = 3
	b = 4
	h = 5 // of as many arguments as are wanted
)

const most = math.MaxInt32

func of(n int, args ...api.Term) api.Term { return api.Term{Fun: n, Args: args} }
func x(k int, args ...api.Term) api.Term  { return api.Term{Fun: -1 - k, Args: args} }

func bind(v int, t api.Term) api.Bind { return api.Bind{Var: v, T: t} }
func binds(l ...api.Bind) api.Subst   { return l }

// show writes a term by its numbers, so that two are the same just if what is shown is.
func show(t api.Term) string { return fmt.Sprint(t.Fun, each(t.Args, show)) }

func showSubst(s api.Subst) string {
	return fmt.Sprint(len(s), each(s, func(b api.Bind) string { return fmt.Sprint(b.Var, ":=", show(b.T)) }))
}

func showLit(l api.Lit) string { return fmt.Sprint(l.Neg, show(l.L), show(l.R)) }

func each[E any](l []E, f func(E) string) []string {
	var out []string
	for _, e := range l {
		out = append(out, f(e))
	}
	return out
}

// nest is g so many times around a term.
func nest(n int, t api.Term) api.Term {
	for range n {
		t = of(g, t)
	}
	return t
}

// smallTerms is X0, X1, X2, a, f of two of these, and some deeper ones.
func smallTerms() []api.Term {
	l := []api.Term{x(0), x(1), x(2), of(a)}
	for _, s := range l[:4:4] {
		for _, t := range l[:4] {
			l = append(l, of(f, s, t))
		}
	}
	return append(l,
		of(f, of(f, x(0), x(1)), x(2)), of(f, of(f, x(1), x(0)), x(0)), of(f, of(f, x(2), of(a)), x(2)),
		of(f, x(0), of(f, x(1), x(0))), of(f, of(a), of(f, x(2), x(2))), of(f, of(f, x(0), x(1)), of(f, x(0), x(1))),
		of(f, of(f, x(1), x(2)), of(f, x(2), x(0))), of(g, x(0)), of(g, of(g, x(1))), of(f), of(g), of(f, x(0)), of(b))
}

// naive is a matcher that tries on copies of all it knows.
type naive struct {
	bound map[int]api.Term
	row   []int
}

func (n naive) clone() naive { return naive{maps.Clone(n.bound), slices.Clone(n.row)} }

func (n *naive) term(pattern, t api.Term) bool {
	try := n.clone()
	if try.bound == nil {
		try.bound = map[int]api.Term{}
	}
	if odd(pattern) || odd(t) || !try.step(pattern, t) {
		return false
	}
	*n = try
	return true
}

func (n *naive) step(pattern, t api.Term) bool {
	if pattern.Fun < 0 {
		v := -1 - pattern.Fun
		if s, ok := n.bound[v]; ok {
			return show(s) == show(t)
		}
		n.bound[v], n.row = t, append(n.row, v)
		return true
	}
	if pattern.Fun != t.Fun || len(pattern.Args) != len(t.Args) {
		return false
	}
	for i := range t.Args {
		if !n.step(pattern.Args[i], t.Args[i]) {
			return false
		}
	}
	return true
}

func (n *naive) lit(pattern, l api.Lit, turned bool) bool {
	top := func(l api.Lit) bool { return show(l.L) == show(of(0)) || show(l.R) == show(of(0)) }
	if pattern.Neg != l.Neg || top(pattern) != top(l) {
		return false
	}
	try := n.clone()
	left, right := l.L, l.R
	if turned {
		left, right = right, left
	}
	if !try.term(pattern.L, left) || !try.term(pattern.R, right) {
		return false
	}
	*n = try
	return true
}

func (n *naive) back(mark int) {
	if mark < 0 || mark > len(n.row) {
		return
	}
	for _, v := range n.row[mark:] {
		delete(n.bound, v)
	}
	n.row = n.row[:mark]
}

func (n naive) subst() api.Subst {
	var s api.Subst
	for _, v := range slices.Sorted(maps.Keys(n.bound)) {
		if show(n.bound[v]) != show(x(v)) {
			s = append(s, bind(v, n.bound[v]))
		}
	}
	return s
}

// odd says that a variable with arguments stands there.
func odd(t api.Term) bool { return t.Fun < 0 && len(t.Args) > 0 || slices.ContainsFunc(t.Args, odd) }

// alike holds a matcher against the naive one.
func alike(t *testing.T, m *match.Matcher, n naive) {
	t.Helper()
	if m.Mark() != len(n.row) || showSubst(m.Subst()) != showSubst(n.subst()) {
		t.Fatal("got", m.Mark(), showSubst(m.Subst()), "want", len(n.row), showSubst(n.subst()))
	}
}

// matched asks Match, and a new matcher, and holds both against the naive one.
func matched(t *testing.T, pattern, u api.Term) (api.Subst, bool) {
	t.Helper()
	s, ok := match.Match(pattern, u)
	m, n := match.New(), naive{}
	if there, want := m.Term(pattern, u), n.term(pattern, u); there != want || ok != want {
		t.Fatal(show(pattern), show(u), "Term", there, "Match", ok, "want", want)
	}
	alike(t, m, n)
	if showSubst(s) != showSubst(n.subst()) {
		t.Fatal(show(pattern), show(u), showSubst(s))
	}
	return s, ok
}

func TestExamples(t *testing.T) {
	if s, ok := matched(t, of(f, x(0), x(1)), of(f, of(a), x(0))); !ok || showSubst(s) != showSubst(binds(bind(0, of(a)), bind(1, x(0)))) {
		t.Error(showSubst(s), ok)
	}
	if s, ok := matched(t, of(f, x(0), x(0)), of(f, of(a), x(1))); ok || s != nil {
		t.Error(showSubst(s), ok)
	}
	if s, ok := matched(t, of(f, x(0), x(1)), of(f, x(0), of(a))); !ok || showSubst(s) != showSubst(binds(bind(1, of(a)))) {
		t.Error(showSubst(s), ok)
	}
	if !match.Variant(of(f, x(0), x(1)), of(f, x(3), x(2))) || match.Variant(of(f, x(0), x(1)), of(f, x(2), x(2))) {
		t.Error("Variant")
	}
}

func TestMatch(t *testing.T) {
	for _, c := range []struct {
		pattern, t api.Term
		s          api.Subst
		ok         bool
	}{
		{x(0), of(a), binds(bind(0, of(a))), true},
		{x(0), x(0), nil, true},
		{x(3), x(1), binds(bind(3, x(1))), true},
		{x(1), x(3), binds(bind(1, x(3))), true},
		{x(0), of(g, x(0)), binds(bind(0, of(g, x(0)))), true},
		{of(a), x(0), nil, false},
		{of(a), of(a), nil, true},
		{of(a), of(b), nil, false},
		{of(f, x(0), x(0)), of(f, x(0), x(1)), nil, false},
		{of(f, x(0), x(0)), of(f, x(1), x(1)), binds(bind(0, x(1))), true},
		{of(f, x(0), x(1)), of(f, x(1), x(0)), binds(bind(0, x(1)), bind(1, x(0))), true},
		{of(f, x(0), x(1)), of(f, x(1), x(1)), binds(bind(0, x(1))), true},
		{of(f, x(1), x(0)), of(f, x(1), x(1)), binds(bind(0, x(1))), true},
		{of(h, x(9), x(2), x(5)), of(h, of(a), of(b), of(g, x(9))), binds(bind(2, of(b)), bind(5, of(g, x(9))), bind(9, of(a))), true},
		{of(f, of(g, x(0)), x(0)), of(f, of(g, of(a)), of(a)), binds(bind(0, of(a))), true},
		{of(f, of(g, x(0)), x(0)), of(f, of(g, of(a)), of(b)), nil, false},
		{of(f, x(0), of(g, x(0))), of(f, of(g, x(1)), of(g, of(g, x(1)))), binds(bind(0, of(g, x(1)))), true},
		{of(f, x(0), of(g, x(0))), of(f, of(g, x(1)), of(g, of(g, x(2)))), nil, false},
		{of(0), of(0), nil, true},
		{x(0), of(0), binds(bind(0, of(0))), true},
	} {
		if s, ok := matched(t, c.pattern, c.t); ok != c.ok || showSubst(s) != showSubst(c.s) {
			t.Error(show(c.pattern), show(c.t), showSubst(s), ok)
		}
	}
}

func TestAllSmall(t *testing.T) {
	for _, p := range smallTerms() {
		for _, u := range smallTerms() {
			s, ok := matched(t, p, u)
			if !ok {
				continue
			}
			if e := subst.Check(s); e != api.OK || show(subst.Apply(s, p)) != show(u) {
				t.Error(show(p), show(u), showSubst(s), e)
			}
			vars := term.Vars(p)
			for _, b := range s {
				if !slices.Contains(vars, b.Var) {
					t.Error("binds what is not the pattern's:", show(p), showSubst(s))
				}
			}
		}
	}
}

// TestNoOther: of all substitutions of the pattern's variables by small terms the one that is told alone makes the term, and where none is told none does.
func TestNoOther(t *testing.T) {
	values := append(smallTerms()[:10:10], of(g, x(0)), of(b))
	for _, p := range smallTerms() {
		for _, u := range smallTerms() {
			told, ok := match.Match(p, u)
			for _, s := range over(term.Vars(p), values) {
				makes := show(subst.Apply(s, p)) == show(u)
				if same := ok && subst.Same(s, told); makes != same {
					t.Fatal(show(p), show(u), showSubst(s), "beside", showSubst(told), ok)
				}
			}
		}
	}
}

// over is all substitutions of these variables by these values, or by themselves.
func over(vars []int, values []api.Term) []api.Subst {
	l := []api.Subst{nil}
	for _, v := range vars {
		for _, s := range slices.Clone(l) {
			for _, u := range values {
				if show(u) != show(x(v)) {
					l = append(l, append(slices.Clone(s), bind(v, u)))
				}
			}
		}
	}
	return l
}

func TestVariant(t *testing.T) {
	l := append(smallTerms(), of(f, x(3), x(2)), of(f, x(95), x(95)), x(most), x(math.MaxInt), of(f, of(f, x(47), x(48)), x(7)), of(0), of(b, x(0)))
	normal := func(u api.Term) string {
		c, _ := subst.Normal(api.Clause{{L: u, R: u}})
		return show(c[0].L)
	}
	for _, p := range l {
		if !match.Variant(p, p) {
			t.Error(show(p), "is none of itself")
		}
		for _, u := range l {
			is := match.Variant(p, u)
			if is != match.Variant(u, p) || is != (normal(p) == normal(u)) {
				t.Error(show(p), show(u), is)
			}
			for _, w := range l {
				if is && match.Variant(u, w) && !match.Variant(p, w) {
					t.Error("not transitive:", show(p), show(u), show(w))
				}
			}
		}
	}
	more, less := of(f, x(0), x(1)), of(f, x(2), x(2))
	if _, ok := match.Match(more, less); !ok || match.Variant(more, less) || match.Variant(less, more) {
		t.Error("one way alone is none")
	}
	if !match.Variant(of(f, x(0), of(f, x(1), x(2))), of(f, x(1), of(f, x(2), x(0)))) || match.Variant(x(0), of(a)) || match.Variant(of(a), x(0)) {
		t.Error("Variant")
	}
}

// TestNumbersOfVariables: at both ends, and far beyond those of a signature's terms.
func TestNumbersOfVariables(t *testing.T) {
	l := []int{0, 1, 47, 48, 95, 96, 1000, most, most + 1, math.MaxInt - 1, math.MaxInt}
	var pattern, u []api.Term
	var all api.Subst
	for _, v := range l {
		for _, w := range l {
			want := binds(bind(v, x(w)))
			if v == w {
				want = nil
			}
			if s, ok := matched(t, x(v), x(w)); !ok || showSubst(s) != showSubst(want) {
				t.Error(v, w, showSubst(s), ok)
			}
		}
		pattern, u = append([]api.Term{x(v), x(v)}, pattern...), append([]api.Term{of(g, x(v)), of(g, x(v))}, u...)
		all = append(all, bind(v, of(g, x(v))))
	}
	if s, ok := matched(t, of(h, pattern...), of(h, u...)); !ok || showSubst(s) != showSubst(all) {
		t.Error(showSubst(s), ok)
	}
	u[0] = of(a)
	if s, ok := matched(t, of(h, pattern...), of(h, u...)); ok || s != nil {
		t.Error(showSubst(s), ok)
	}
	if s, ok := matched(t, of(math.MaxInt, of(math.MinInt)), of(math.MaxInt, of(math.MaxInt))); !ok || showSubst(s) != showSubst(binds(bind(math.MaxInt, of(math.MaxInt)))) {
		t.Error(showSubst(s), ok)
	}
}
