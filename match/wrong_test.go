package match_test

import (
	"math"
	"slices"
	"testing"

	"syllogism/api"
	"syllogism/match"
)

// spoil writes into all of a term, spare room included.
func spoil(t *api.Term) {
	t.Fun = 99
	full := t.Args[:cap(t.Args)]
	for i := range full {
		spoil(&full[i])
	}
}

func spoilSubst(s api.Subst) {
	full := s[:cap(s)]
	for i := range full {
		full[i].Var = 99
		spoil(&full[i].T)
	}
}

// roomy is a term with spare room behind all its arguments.
func roomy(t api.Term) api.Term {
	if len(t.Args) == 0 {
		return t
	}
	l := make([]api.Term, 0, len(t.Args)+2)
	for _, c := range t.Args {
		l = append(l, roomy(c))
	}
	copy(l[len(l):cap(l)], []api.Term{of(7, of(8)), of(9)})
	return api.Term{Fun: t.Fun, Args: l}
}

// whole shows a term with the spare room behind all arguments.
func whole(t api.Term) string {
	var bare func(t api.Term) api.Term
	bare = func(t api.Term) api.Term {
		out := api.Term{Fun: t.Fun}
		for _, c := range t.Args[:cap(t.Args)] {
			out.Args = append(out.Args, bare(c))
		}
		return out
	}
	return show(bare(t))
}

// apart wants that no list of arguments of an answer lies where one that was seen lies.
func apart(t *testing.T, seen map[*api.Term]bool, s api.Subst) {
	t.Helper()
	var look func(u api.Term)
	look = func(u api.Term) {
		full := u.Args[:cap(u.Args)]
		for i := range full {
			if seen[&full[i]] {
				t.Error("shared:", show(u))
			}
			seen[&full[i]] = true
			look(full[i])
		}
	}
	for _, b := range s {
		look(b.T)
	}
}

// TestVariablesWithArguments: such a term matches nothing and nothing matches it, not even itself, wherever the variable stands.
func TestVariablesWithArguments(t *testing.T) {
	plain := []api.Term{x(0), x(1), of(a), of(f, x(0), of(a)), of(f, of(b), x(1)), of(f, x(0), x(1)), nest(9, x(0)), of(h, x(0), x(1), x(2))}
	for _, core := range []api.Term{x(0, of(a)), x(0, x(0)), x(0, x(1)), x(95, of(a), of(b)), x(math.MaxInt, x(0)), x(most, x(1, x(2)))} {
		for _, bad := range []api.Term{core, of(f, core, of(a)), of(f, of(b), core), nest(9, core), of(h, x(0), x(1), of(g, core)), of(g, of(f, of(a), of(f, core, of(b))))} {
			for _, p := range append(plain, bad) {
				if s, ok := matched(t, p, bad); ok || s != nil {
					t.Error(show(p), show(bad), showSubst(s), ok)
				}
				if s, ok := matched(t, bad, p); ok || s != nil {
					t.Error(show(bad), show(p), showSubst(s), ok)
				}
				if match.Variant(p, bad) || match.Variant(bad, p) {
					t.Error("Variant", show(p), show(bad))
				}
			}
		}
	}
	if _, ok := matched(t, of(f, of(a), x(0)), of(f, of(b), x(0, of(a)))); ok {
		t.Error("behind a misfit")
	}
	if _, ok := matched(t, of(f, of(a), x(0, of(a))), of(f, of(b), of(a))); ok {
		t.Error("behind a misfit")
	}
}

// TestVariablesWithArgumentsLater: under what is bound, behind what binds, in either side of a literal.
func TestVariablesWithArgumentsLater(t *testing.T) {
	m := match.New()
	bad := of(g, x(1, of(a)))
	asked(t, m, x(1), of(a), true, 1, binds(bind(1, of(a))))
	asked(t, m, bad, of(g, of(a)), false, 1, binds(bind(1, of(a))))
	asked(t, m, of(f, x(1), bad), of(f, of(a), bad), false, 1, binds(bind(1, of(a))))
	asked(t, m, of(f, x(0), x(2)), of(f, of(b), bad), false, 1, binds(bind(1, of(a))))
	asked(t, m, of(f, x(0), bad), of(f, of(b), x(0)), false, 1, binds(bind(1, of(a))))
	asked(t, m, x(1, of(a)), of(a), false, 1, binds(bind(1, of(a))))
	for _, p := range []api.Lit{{L: x(0), R: x(2)}, {L: x(2), R: bad}, {L: bad, R: x(2)}} {
		for _, l := range []api.Lit{{L: of(b), R: bad}, {L: bad, R: of(b)}} {
			if m.Lit(p, l, false) || m.Lit(p, l, true) || m.Lit(l, p, true) || m.Lit(l, p, false) {
				t.Error(showLit(p), showLit(l))
			}
			stands(t, m, 1, binds(bind(1, of(a))))
		}
	}
}

// TestOverNoSignature: any numbers, and as many arguments as there are.
func TestOverNoSignature(t *testing.T) {
	l := []api.Term{of(a), of(a, of(a)), of(a, of(a), of(a)), of(a, x(0)), of(0), of(0, of(a)), of(0, x(0)), of(math.MaxInt), of(math.MaxInt, x(0)), of(h), of(h, slices.Repeat([]api.Term{x(0)}, 50)...), of(h, slices.Repeat([]api.Term{of(a)}, 50)...), of(h, slices.Repeat([]api.Term{of(a)}, 51)...), nest(50, x(0)), nest(51, of(a))}
	for _, p := range l {
		for _, u := range l {
			matched(t, p, u)
			if match.Variant(p, u) != (show(p) == show(u)) {
				t.Error(show(p), show(u))
			}
		}
	}
	if s, ok := matched(t, of(f, x(0)), of(f, of(a), of(b))); ok || s != nil {
		t.Error("fewer arguments")
	}
	if s, ok := matched(t, of(f, x(0), x(1)), of(f, of(a))); ok || s != nil {
		t.Error("more arguments")
	}
	if s, ok := matched(t, of(g, x(0)), of(g)); ok || s != nil {
		t.Error("no arguments")
	}
	if s, ok := matched(t, api.Term{}, api.Term{Args: []api.Term{}}); !ok || s != nil {
		t.Error("none and empty")
	}
	if s, ok := matched(t, api.Term{Fun: -1, Args: []api.Term{}}, api.Term{Fun: -1}); !ok || s != nil {
		t.Error("none and empty, of a variable")
	}
}

// TestLarge: terms far above the limits, and one that goes deep.
func TestLarge(t *testing.T) {
	wide := of(h, slices.Repeat([]api.Term{of(f, x(0), of(a))}, 5000)...)
	if s, ok := match.Match(of(h, slices.Repeat([]api.Term{of(f, x(1), x(2))}, 5000)...), wide); !ok || showSubst(s) != showSubst(binds(bind(1, x(0)), bind(2, of(a)))) {
		t.Error(ok)
	}
	if s, ok := match.Match(x(0), wide); !ok || show(s[0].T) != show(wide) {
		t.Error(ok)
	}
	deep := nest(1<<16-2, of(a))
	if s, ok := match.Match(nest(1<<16-3, x(7)), deep); !ok || showSubst(s) != showSubst(binds(bind(7, of(g, of(a))))) {
		t.Error(ok)
	}
	if s, ok := match.Match(of(f, x(0), x(0)), of(f, deep, deep)); !ok || len(s) != 1 {
		t.Error(ok)
	}
	if !match.Variant(deep, deep) || match.Variant(deep, nest(1<<16-2, of(b))) {
		t.Error("Variant")
	}
	var many, values []api.Term
	for v := range 20000 {
		many, values = append(many, x(20000-v)), append(values, of(g, x(v)))
	}
	m := match.New()
	if !m.Term(of(h, many...), of(h, values...)) || m.Mark() != 20000 || len(m.Subst()) != 20000 {
		t.Error(m.Mark())
	}
	m.Back(1)
	stands(t, m, 1, binds(bind(20000, of(g, x(0)))))
}

// TestNobody: a nil matcher, and one that New has not made.
func TestNobody(t *testing.T) {
	for _, m := range []*match.Matcher{nil, {}, new(match.Matcher)} {
		for range 2 {
			if m.Term(x(0), of(a)) || m.Term(of(a), of(a)) || m.Term(x(0), x(0)) || m.Term(x(0, of(a)), x(0)) {
				t.Error("Term")
			}
			l := api.Lit{L: of(g, x(0)), R: of(0)}
			if m.Lit(l, l, false) || m.Lit(l, l, true) || m.Lit(api.Lit{}, api.Lit{}, true) {
				t.Error("Lit")
			}
			for _, mark := range []int{math.MinInt, -1, 0, 1, math.MaxInt} {
				m.Back(mark)
			}
			if m.Mark() != 0 || m.Subst() != nil {
				t.Error("Mark, Subst")
			}
		}
	}
	m := match.New()
	asked(t, m, x(0), of(a), true, 1, binds(bind(0, of(a))))
	for _, mark := range []int{math.MinInt, -1, 2, math.MaxInt} {
		m.Back(mark)
		stands(t, m, 1, binds(bind(0, of(a))))
	}
}

func TestNothingShared(t *testing.T) {
	inner := roomy(of(f, of(g, x(3)), of(f, of(a), x(2))))
	pattern := roomy(of(h, x(0), of(f, x(1), x(0)), x(2)))
	u := roomy(of(h, inner, of(f, of(g, inner), inner), inner))
	before := whole(pattern) + whole(u)
	first, ok := match.Match(pattern, u)
	if !ok || len(first) != 3 {
		t.Fatal(showSubst(first), ok)
	}
	told := showSubst(first)
	m := match.New()
	if !m.Lit(api.Lit{L: pattern, R: of(a)}, api.Lit{L: of(a), R: u}, true) {
		t.Fatal("Lit")
	}
	seen := map[*api.Term]bool{}
	apart(t, seen, first)
	for range 3 {
		one, _ := match.Match(pattern, u)
		two := m.Subst()
		apart(t, seen, one)
		apart(t, seen, two)
		if showSubst(one) != told || showSubst(two) != told {
			t.Error("not the same again:", showSubst(one), showSubst(two))
		}
		spoilSubst(one)
		spoilSubst(two)
		match.Variant(pattern, u)
		if whole(pattern)+whole(u) != before {
			t.Fatal("the answer shares what was handed in, or that is changed")
		}
	}
	if showSubst(first) != told {
		t.Error("answers share")
	}
}

// TestNothingKept: what the caller writes into his own terms and answers changes nothing that is bound.
func TestNothingKept(t *testing.T) {
	m := match.New()
	pattern, u := of(f, x(0), of(g, x(1))), of(f, of(g, of(g, of(a))), of(g, of(f, x(0), of(b))))
	want := binds(bind(0, of(g, of(g, of(a)))), bind(1, of(f, x(0), of(b))))
	asked(t, m, pattern, u, true, 2, want)
	spoil(&pattern)
	spoil(&u)
	stands(t, m, 2, want)
	spoilSubst(m.Subst())
	stands(t, m, 2, want)
	asked(t, m, of(f, x(0), x(1)), of(f, of(g, of(g, of(a))), of(f, x(0), of(b))), true, 2, want)
	asked(t, m, x(0), of(g, of(g, of(b))), false, 2, want)
}
