package order_test

import (
	"math/rand"
	"slices"
	"testing"

	"syllogism/api"
	"syllogism/kbo"
	"syllogism/lpo"
	"syllogism/order"
	"syllogism/prec"
)

// thing is a term, or a multiset of things.
type thing struct {
	term    *api.Term
	members []thing
}

func termThing(t api.Term) thing { return thing{term: &t} }

func litThing(l api.Lit) thing {
	if l.Neg {
		return thing{members: []thing{{members: []thing{termThing(l.L), termThing(l.R)}}}}
	}
	return thing{members: []thing{{members: []thing{termThing(l.L)}}, {members: []thing{termThing(l.R)}}}}
}

func clauseThing(c api.Clause) thing {
	var out thing
	for _, l := range c {
		out.members = append(out.members, litThing(l))
	}
	return out
}

func same(s, t api.Term) bool { return s.Fun == t.Fun && slices.EqualFunc(s.Args, t.Args, same) }

// often is how many times a thing is a member of some.
func often(v thing, l []thing) int {
	n := 0
	for _, w := range l {
		if sameThings(v, w) {
			n++
		}
	}
	return n
}

// sameThings: multisets are the same, if each member of either is as often in both.
func sameThings(v, w thing) bool {
	if v.term != nil {
		return same(*v.term, *w.term)
	}
	as := func(u thing) bool { return often(u, v.members) == often(u, w.members) }
	return !slices.ContainsFunc(append(slices.Clone(v.members), w.members...), func(u thing) bool { return !as(u) })
}

// without is what is left of a list when what another one has, too, is taken out as often as that has it.
func without(l, other []thing) []thing {
	var out []thing
	for i, v := range l {
		if often(v, l[:i]) >= often(v, other) {
			out = append(out, v)
		}
	}
	return out
}

// aboveThing says what the chapter's words say, one by one.
func aboveThing(o api.Order, v, w thing) bool {
	if v.term != nil {
		if o.Lpo {
			return lpo.Above(o, *v.term, *w.term)
		}
		return kbo.Above(o, *v.term, *w.term)
	}
	if sameThings(v, w) {
		return false
	}
	m := without(v.members, w.members)
	for _, n := range without(w.members, v.members) {
		if !slices.ContainsFunc(m, func(one thing) bool { return aboveThing(o, one, n) }) {
			return false
		}
	}
	return true
}

func naive(o api.Order, v, w thing) api.Rel {
	switch {
	case sameThings(v, w):
		return api.RelEqual
	case aboveThing(o, v, w):
		return api.RelGreater
	case aboveThing(o, w, v):
		return api.RelLess
	}
	return api.RelNone
}

// orders may all be over one signature.
func orders(t *testing.T) []api.Order {
	t.Helper()
	l := []api.Order{
		byWeight(), byRank(),
		{Prec: []int{-5, 3, 1, 7, 9, 2, 4, 6}, Weights: []int{2, 3, 2, 1, 0, 1, 4, 2}, Var: 2},
		{Prec: []int{0, 1, 2, 3, 9, 5, 6, 7}, Weights: []int{1, 1, 1, 1, 0, 1, 1, 1}, Var: 1},
		{Lpo: true, Prec: []int{-1, 50, 40, 30, 20, 10, 5, 2}},
		{Lpo: true, Prec: []int{0, 3, 4, 9, 1, 2, 5, 6}, Weights: []int{7}, Var: -3},
	}
	for _, o := range l {
		if e := prec.Check(signature(), o); e != api.OK {
			t.Fatal(o, e)
		}
	}
	return l
}

func signature() api.Sig {
	return api.Sig{Syms: []api.Sym{
		{Name: "$true", Pred: true}, {Name: "a"}, {Name: "b"}, {Name: "f", Arity: 2}, {Name: "g", Arity: 1}, {Name: "h", Arity: 1},
		{Name: "p", Arity: 1, Pred: true}, {Name: "q", Pred: true},
	}}
}

// oddOrders may not be.
func oddOrders() []api.Order {
	return []api.Order{
		{}, {Lpo: true}, {Var: 3}, {Lpo: true, Weights: []int{1, 1, 1}},
		{Prec: []int{0, 1, 2, 3}}, {Lpo: true, Prec: []int{0, 1, 2, 3}},
		{Prec: []int{0, 1, 2, 3, 4, 5, 6, 7}, Weights: []int{1, 1, 1}, Var: 1},
		{Prec: []int{0, 1, 1, 2, 2, 2, 3, 3}, Weights: []int{1, 1, 1, 1, 0, 0, 1, 1}, Var: 0},
		{Lpo: true, Prec: []int{0, 1, 1, 2, 2, 2, 3, 3}},
		{Prec: []int{7, 6, 5, 4, 3, 2, 1, 0}, Weights: []int{-1, 0, 5, 0, 0, 0, 1000, -9}, Var: 6},
		{Lpo: true, Prec: []int{7, 6, 5, 4, 3, 2, 1, 0}},
	}
}

// oddTerms hold what orders may not know, and symbols with any numbers of arguments.
func oddTerms() []api.Term {
	return []api.Term{
		x(0), x(1), of(0), of(a), of(b), of(g, x(0)), of(g, of(h, x(0))), of(h, of(b)), of(f, x(0), x(1)), of(f, x(1), x(0)), of(f, of(a), x(0), x(0)), of(g), of(p, x(0)), of(q),
		of(9), of(9, x(0)), of(g, of(9)), x(0, of(a)), x(1, x(1)), of(f, x(0), x(1, of(b))),
	}
}

func smallTerms() []api.Term {
	return []api.Term{x(0), x(1), of(a), of(b), of(g, x(0)), of(g, x(1)), of(g, of(a)), of(h, x(0)), of(g, of(h, x(0))), of(f, x(0), x(1)), of(f, x(1), x(0)), of(f, of(a), x(0)), of(f, of(a), of(b))}
}

// litsOf is all literals over some terms, or each so manyth of them.
func litsOf(l []api.Term, each int) []api.Lit {
	var out []api.Lit
	for i, s := range l {
		for j, u := range l {
			if (i*len(l)+j)%each == 0 {
				out = append(out, eq(s, u), ne(s, u))
			}
		}
	}
	return out
}

func heldLits(t *testing.T, o api.Order, one, two api.Lit) {
	t.Helper()
	if got, want := order.Lits(o, one, two), naive(o, litThing(one), litThing(two)); got != want {
		t.Errorf("%v: %v and %v: %v, not %v", o, one, two, got, want)
	}
}

func heldClauses(t *testing.T, o api.Order, one, two api.Clause) {
	t.Helper()
	if got, want := order.Clauses(o, one, two), naive(o, clauseThing(one), clauseThing(two)); got != want {
		t.Errorf("%v: %v and %v: %v, not %v", o, show(one), show(two), got, want)
	}
}

// heldMost asks the second way for all places, and for such as there are not.
func heldMost(t *testing.T, o api.Order, c api.Clause) {
	t.Helper()
	for i := range c {
		maximal, strictly := true, true
		for j := range c {
			if j == i {
				continue
			}
			one, other := litThing(c[i]), litThing(c[j])
			maximal = maximal && !aboveThing(o, other, one)
			strictly = strictly && !sameThings(other, one)
		}
		if got := order.Maximal(o, c, i, false); got != maximal {
			t.Errorf("%v: %v: %d: %v", o, show(c), i, got)
		}
		if got := order.Maximal(o, c, i, true); got != (maximal && strictly) {
			t.Errorf("%v: %v: %d strictly: %v", o, show(c), i, got)
		}
	}
}

func heldTurned(t *testing.T, o api.Order, l api.Lit) {
	t.Helper()
	if got, want := order.Turned(o, l), aboveThing(o, termThing(l.R), termThing(l.L)); got != want {
		t.Errorf("%v: %v: %v", o, l, got)
	}
}

func TestAllSmallLiterals(t *testing.T) {
	l := litsOf(smallTerms(), 3)
	for _, o := range orders(t) {
		for _, one := range l {
			heldTurned(t, o, one)
			for _, two := range l {
				heldLits(t, o, one, two)
			}
		}
	}
}

func TestOddLiterals(t *testing.T) {
	l := litsOf(oddTerms(), 7)
	for _, o := range append(oddOrders(), both()...) {
		for _, one := range l {
			heldTurned(t, o, one)
			for _, two := range l {
				heldLits(t, o, one, two)
			}
		}
	}
}

// anyClause picks literals, of few of them the same ones again and again.
func anyClause(r *rand.Rand, l []api.Lit) api.Clause {
	from := l
	if r.Intn(2) == 0 {
		i := r.Intn(len(l) - 5)
		from = l[i : i+5]
	}
	var c api.Clause
	for range r.Intn(6) {
		c = append(c, from[r.Intn(len(from))])
	}
	return c
}

// changed is a clause in another order, some of its literals turned round, one put in the place of another, or left out.
func changed(r *rand.Rand, c api.Clause, l []api.Lit) api.Clause {
	out := slices.Clone(c)
	r.Shuffle(len(out), func(i, j int) { out[i], out[j] = out[j], out[i] })
	for i := range out {
		if r.Intn(2) == 0 {
			out[i].L, out[i].R = out[i].R, out[i].L
		}
	}
	switch n := len(out); {
	case n > 0 && r.Intn(3) == 0:
		out[r.Intn(n)] = l[r.Intn(len(l))]
	case n > 0 && r.Intn(3) == 0:
		out[r.Intn(n)] = out[r.Intn(n)]
	case r.Intn(3) == 0:
		out = append(out, l[r.Intn(len(l))])
	case n > 0 && r.Intn(2) == 0:
		out = out[1:]
	}
	return out
}

func TestClausesAnyhow(t *testing.T) {
	r := rand.New(rand.NewSource(10))
	for _, set := range []struct {
		orders []api.Order
		lits   []api.Lit
	}{{orders(t), litsOf(smallTerms(), 1)}, {append(oddOrders(), both()...), litsOf(oddTerms(), 1)}} {
		for _, o := range set.orders {
			seen := map[api.Rel]int{}
			for range 500 {
				c := anyClause(r, set.lits)
				d := changed(r, c, set.lits)
				heldMost(t, o, c)
				heldClauses(t, o, c, d)
				heldClauses(t, o, c, anyClause(r, set.lits))
				seen[order.Clauses(o, c, d)]++
			}
			if len(o.Prec) == 8 && len(seen) != 4 {
				t.Error(o, "just", seen)
			}
		}
	}
}

// TestAllSmallClauses of none, one and two literals.
func TestAllSmallClauses(t *testing.T) {
	l := []api.Lit{eq(x(0), x(1)), eq(x(1), x(0)), ne(x(0), of(a)), eq(of(g, x(0)), of(a)), eq(of(g, x(1)), of(a)), ne(of(a), of(g, x(0))), atom(of(p, x(0)))}
	all := []api.Clause{nil}
	for i, one := range l {
		all = append(all, api.Clause{one})
		for _, two := range l[i:] {
			all = append(all, api.Clause{one, two})
		}
	}
	for _, o := range orders(t) {
		for _, c := range all {
			heldMost(t, o, c)
			for _, d := range all {
				heldClauses(t, o, c, d)
			}
		}
	}
}

// anyTerm is a term of some depth at most.
func anyTerm(r *rand.Rand, depth int) api.Term {
	if n := r.Intn(7); depth == 0 || n < 2 {
		return []api.Term{x(0), x(1), of(a), of(b)}[r.Intn(4)]
	}
	if r.Intn(2) == 0 {
		return of(f, anyTerm(r, depth-1), anyTerm(r, depth-1))
	}
	return of(g+r.Intn(2), anyTerm(r, depth-1))
}

// TestLargeClauses of as many literals as may be, of large terms.
func TestLargeClauses(t *testing.T) {
	r := rand.New(rand.NewSource(11))
	var l []api.Lit
	for range 300 {
		s := anyTerm(r, 8)
		l = append(l, eq(s, anyTerm(r, 5)), ne(s, anyTerm(r, 7)), atom(of(p, s)))
	}
	for _, o := range orders(t) {
		for range 20 {
			var c api.Clause
			for range api.MaxLits {
				c = append(c, l[r.Intn(len(l))])
			}
			heldMost(t, o, c)
			heldClauses(t, o, c, c)
			heldClauses(t, o, c, changed(r, c, l))
			heldClauses(t, o, changed(r, c, l), changed(r, c, l))
		}
	}
}
