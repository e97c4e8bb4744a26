package order_test

import (
	"testing"

	"syllogism/api"
	"syllogism/order"
)

// lawful goes over orders that may be, with how all pairs of some things stand.
func lawful[T any](t *testing.T, l []T, call func(api.Order, T, T) api.Rel, law func(o api.Order, table [][]api.Rel)) {
	t.Helper()
	for _, o := range orders(t) {
		table := make([][]api.Rel, len(l))
		seen := map[api.Rel]int{}
		for i, one := range l {
			for _, two := range l {
				r := call(o, one, two)
				table[i] = append(table[i], r)
				seen[r]++
			}
		}
		if len(seen) != 4 {
			t.Error(o, "just", seen)
		}
		law(o, table)
	}
}

// mayBe are literals over small terms that may all be over one signature.
func mayBe() []api.Lit {
	l := litsOf([]api.Term{x(0), x(1), of(a), of(g, x(0)), of(h, of(g, x(1))), of(f, x(1), x(0)), of(f, of(a), of(b))}, 1)
	for _, s := range []api.Term{x(0), x(1), of(b), of(g, x(0))} {
		l = append(l, atom(of(p, s)), deny(of(p, s)))
	}
	return append(l, atom(of(q)), deny(of(q)))
}

// smallClauses are of none to three literals, some of them more than once.
func smallClauses() []api.Clause {
	l := []api.Lit{eq(x(0), x(1)), eq(of(g, x(0)), of(a)), eq(of(g, x(1)), of(a)), ne(of(g, x(0)), of(a)), ne(of(f, x(0), x(1)), of(b)), atom(of(p, x(1))), deny(of(p, of(g, x(0))))}
	out := []api.Clause{nil}
	for i, one := range l {
		out = append(out, api.Clause{one}, api.Clause{one, one, one})
		for j, two := range l[i:] {
			out = append(out, api.Clause{two, one})
			if i > 0 {
				out = append(out, api.Clause{two, l[i-1], l[(i+j+3)%len(l)]})
			}
		}
	}
	return out
}

// isOrder: nothing is above itself; turned round it is the other way round; what is above what is above is above, and what is the same as that, too.
func isOrder[T any](t *testing.T, l []T, call func(api.Order, T, T) api.Rel) {
	t.Helper()
	lawful(t, l, call, func(o api.Order, table [][]api.Rel) {
		for i := range l {
			if table[i][i] != api.RelEqual {
				t.Error(o, show(l[i]), table[i][i])
			}
			for j := range l {
				if table[j][i] != round(table[i][j]) {
					t.Error(o, show(l[i]), show(l[j]), table[i][j], table[j][i])
				}
				if table[i][j] != api.RelGreater && table[i][j] != api.RelEqual {
					continue
				}
				for k := range l {
					two, three := table[j][k], table[i][k]
					if table[i][j] == api.RelEqual && three != two || two == api.RelGreater && three != api.RelGreater {
						t.Fatal(o, show(l[i]), show(l[j]), show(l[k]), two, three)
					}
				}
			}
		}
	})
}

func TestLiteralsAreOrdered(t *testing.T) { isOrder(t, mayBe(), order.Lits) }

func TestClausesAreOrdered(t *testing.T) { isOrder(t, smallClauses(), order.Clauses) }

// put puts in for X0 and X1.
func put(one, two, t api.Term) api.Term {
	switch t.Fun {
	case -1:
		return one
	case -2:
		return two
	}
	out := of(t.Fun)
	for _, s := range t.Args {
		out.Args = append(out.Args, put(one, two, s))
	}
	return out
}

func putLit(one, two api.Term, l api.Lit) api.Lit {
	return api.Lit{Neg: l.Neg, L: put(one, two, l.L), R: put(one, two, l.R)}
}

func putClause(one, two api.Term, c api.Clause) api.Clause {
	var out api.Clause
	for _, l := range c {
		out = append(out, putLit(one, two, l))
	}
	return out
}

// keeps: what is put in for variables, the same in both, leaves above, and the same, as it is.
func keeps[T any](t *testing.T, l []T, call func(api.Order, T, T) api.Rel, put func(one, two api.Term, v T) T) {
	t.Helper()
	values := []api.Term{x(0), x(1), x(2), of(a), of(g, x(1)), of(f, x(1), of(b)), of(h, of(h, x(0)))}
	lawful(t, l, call, func(o api.Order, table [][]api.Rel) {
		for i, v := range l {
			for j, w := range l {
				if table[i][j] == api.RelNone || table[i][j] == api.RelLess {
					continue
				}
				for k := range values {
					one, two := values[k], values[(k+i+j)%len(values)]
					if got := call(o, put(one, two, v), put(one, two, w)); got != table[i][j] {
						t.Fatal(o, show(v), show(w), one, two, got)
					}
				}
			}
		}
	})
}

func TestPutIntoLiterals(t *testing.T) { keeps(t, mayBe(), order.Lits, putLit) }

func TestPutIntoClauses(t *testing.T) { keeps(t, smallClauses(), order.Clauses, putClause) }

// TestSomeLiteralIsMaximal in each clause that is not empty; and each other one has such a one above it.
func TestSomeLiteralIsMaximal(t *testing.T) {
	all := append(smallClauses(), fullClause(), api.Clause(mayBe()[:40]), api.Clause(mayBe()))
	for _, o := range orders(t) {
		for _, c := range all[1:] {
			var most []api.Lit
			for i := range c {
				if order.Maximal(o, c, i, false) {
					most = append(most, c[i])
				} else if order.Maximal(o, c, i, true) {
					t.Error(o, show(c), i, "strictly, but not maximal")
				}
			}
			if len(most) == 0 {
				t.Error(o, show(c))
			}
			for i, l := range c {
				above := false
				for _, m := range most {
					above = above || order.Lits(o, m, l) == api.RelGreater
				}
				if above == order.Maximal(o, c, i, false) {
					t.Error(o, show(c), i)
				}
			}
		}
	}
}

// TestDenialAbove: a negative literal is above the positive one with the same sides.
func TestDenialAbove(t *testing.T) {
	for _, o := range orders(t) {
		for _, l := range append(mayBe(), litsOf(smallTerms(), 1)...) {
			positive, negative := eq(l.L, l.R), ne(l.R, l.L)
			wants(t, o, order.Lits, []lits{{negative, positive, api.RelGreater}, {ne(l.L, l.R), positive, api.RelGreater}})
			wantsMost(t, o, api.Clause{positive, negative}, []int{1}, []int{1})
		}
	}
}
