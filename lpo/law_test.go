package lpo_test

import (
	"testing"

	"syllogism/api"
	"syllogism/lpo"
)

// lawful wants P9.2 of the small terms, in each order that may be.
func lawful(t *testing.T, law func(*testing.T, api.Order, []api.Term, [][]api.Rel)) {
	t.Helper()
	l := smallTerms()
	for _, o := range orders(t) {
		table := make([][]api.Rel, len(l))
		for i, s := range l {
			for _, u := range l {
				table[i] = append(table[i], lpo.Cmp(o, s, u))
			}
		}
		law(t, o, l, table)
	}
}

// TestTurnedRound: none is above itself, none is the same as another, and Cmp the other way round is the other way round.
func TestTurnedRound(t *testing.T) {
	lawful(t, func(t *testing.T, o api.Order, l []api.Term, table [][]api.Rel) {
		for i := range l {
			for j := range l {
				if table[i][j] != round(table[j][i]) || (table[i][j] == api.RelEqual) != (i == j) {
					t.Error(o, l[i], l[j], table[i][j], table[j][i])
				}
			}
		}
	})
}

// TestThrees: what is above what is above is above.
func TestThrees(t *testing.T) {
	lawful(t, func(t *testing.T, o api.Order, l []api.Term, table [][]api.Rel) {
		for i := range l {
			for j := range l {
				if table[i][j] != api.RelGreater {
					continue
				}
				for k := range l {
					if table[j][k] == api.RelGreater && table[i][k] != api.RelGreater {
						t.Error(o, l[i], l[j], l[k])
					}
				}
			}
		}
	})
}

// TestSubterms: a term is above each of its subterms that is not itself.
func TestSubterms(t *testing.T) {
	var below func(o api.Order, whole, s api.Term)
	below = func(o api.Order, whole, s api.Term) {
		for _, a := range s.Args {
			if !lpo.Above(o, whole, a) || lpo.Cmp(o, a, whole) != api.RelLess {
				t.Error(o, whole, a)
			}
			below(o, whole, a)
		}
	}
	for _, o := range orders(t) {
		for _, s := range append(smallTerms(), of(f, of(m, x(0), nest(20, h, of(a))), nest(20, g, x(1)))) {
			below(o, s, s)
		}
	}
}

// TestGround: two that are not the same are above or below; $true is below all others.
func TestGround(t *testing.T) {
	lawful(t, func(t *testing.T, o api.Order, l []api.Term, table [][]api.Rel) {
		n := 0
		for i, s := range l {
			if ground(s) {
				n++
			}
			for j, u := range l {
				if i == j || !ground(s) || !ground(u) {
					continue
				}
				if table[i][j] == api.RelNone || u.Fun == 0 && table[i][j] != api.RelGreater {
					t.Error(o, s, u, table[i][j])
				}
			}
		}
		if n < 40 {
			t.Error("just", n, "are ground")
		}
	})
}

func ground(t api.Term) bool { return !stands(-1, t) && !stands(-2, t) }

// put puts in for X0 and X1.
func put(one, two, t api.Term) api.Term {
	switch t.Fun {
	case -1:
		return one
	case -2:
		return two
	}
	out := of(t.Fun)
	for _, a := range t.Args {
		out.Args = append(out.Args, put(one, two, a))
	}
	return out
}

// TestPutIn: what is put in for variables, the same in both, leaves above as it is.
func TestPutIn(t *testing.T) {
	values := []api.Term{x(1), x(0), x(2), of(0), of(a), of(g, x(0)), of(h, of(h, x(1))), of(f, x(1), of(b)), of(m, x(0), x(0))}
	lawful(t, func(t *testing.T, o api.Order, l []api.Term, table [][]api.Rel) {
		for i, s := range l {
			for j, u := range l {
				if table[i][j] != api.RelGreater || ground(s) || (i+j)%4 != 0 {
					continue
				}
				for _, one := range values {
					for _, two := range values {
						if !lpo.Above(o, put(one, two, s), put(one, two, u)) {
							t.Error(o, s, u, one, two)
						}
					}
				}
			}
		}
	})
}

// TestTermsAround: a term around both leaves above as it is.
func TestTermsAround(t *testing.T) {
	lawful(t, func(t *testing.T, o api.Order, l []api.Term, table [][]api.Rel) {
		for i, s := range l {
			for j, u := range l {
				if table[i][j] != api.RelGreater {
					continue
				}
				for _, c := range [][2]api.Term{
					{of(g, s), of(g, u)},
					{of(f, s, of(a)), of(f, u, of(a))},
					{of(f, x(0), s), of(f, x(0), u)},
					{of(m, of(h, of(h, s)), x(1)), of(m, of(h, of(h, u)), x(1))},
					{of(h, of(m, of(g, of(b)), of(f, s, x(2)))), of(h, of(m, of(g, of(b)), of(f, u, x(2))))},
				} {
					if !lpo.Above(o, c[0], c[1]) {
						t.Error(o, c)
					}
				}
			}
		}
	})
}
