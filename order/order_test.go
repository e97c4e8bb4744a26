package order_test

import (
	"fmt"
	"slices"
	"testing"

	"syllogism/api"
	"syllogism/kbo"
	"syllogism/lpo"
	"syllogism/order"
)

// The symbols of the chapter's examples; h ranks above them, the predicates p and q above all.
const (
	a = 1 + iota
	b
	f
	g
	h
	p
	q
)

func of(n int, args ...api.Term) api.Term { return api.Term{Fun: n, Args: args} }
func x(k int, args ...api.Term) api.Term  { return api.Term{Fun: -1 - k, Args: args} }

func eq(l, r api.Term) api.Lit { return api.Lit{L: l, R: r} }
func ne(l, r api.Term) api.Lit { return api.Lit{Neg: true, L: l, R: r} }
func atom(t api.Term) api.Lit  { return eq(t, of(0)) }
func deny(t api.Term) api.Lit  { return ne(t, of(0)) }

// nest is one symbol so many times around a term.
func nest(n, symbol int, t api.Term) api.Term {
	for range n {
		t = of(symbol, t)
	}
	return t
}

// show tells something, and of what is long how it begins.
func show(v any) string { return fmt.Sprintf("%.300s", fmt.Sprint(v)) }

// byWeight weighs all symbols 1, byRank goes by ranks alone; both rank by number.
func byWeight() api.Order {
	return api.Order{Prec: []int{0, 1, 2, 3, 4, 5, 6, 7}, Weights: []int{1, 1, 1, 1, 1, 1, 1, 1}, Var: 1}
}
func byRank() api.Order { return api.Order{Lpo: true, Prec: []int{0, 1, 2, 3, 4, 5, 6, 7}} }

func both() []api.Order { return []api.Order{byWeight(), byRank()} }

// round is a relation the other way round.
func round(r api.Rel) api.Rel {
	switch r {
	case api.RelLess:
		return api.RelGreater
	case api.RelGreater:
		return api.RelLess
	}
	return r
}

// stand is what is to be of two things.
type stand[T any] struct {
	one, two T
	want     api.Rel
}

// wants holds what is told, the other way round, too, against what is to be.
func wants[T any](t *testing.T, o api.Order, call func(api.Order, T, T) api.Rel, l []stand[T]) {
	t.Helper()
	for _, c := range l {
		if got := call(o, c.one, c.two); got != c.want {
			t.Errorf("%v: %s and %s: %v, not %v", o, show(c.one), show(c.two), got, c.want)
		}
		if got := call(o, c.two, c.one); got != round(c.want) {
			t.Errorf("%v: %s and %s: %v, not %v", o, show(c.two), show(c.one), got, round(c.want))
		}
	}
}

type lits = stand[api.Lit]
type clauses = stand[api.Clause]

// wantsLits wants it of two literals, of clauses of them alone, and of clauses that have other literals in common.
func wantsLits(t *testing.T, o api.Order, l ...lits) {
	t.Helper()
	wants(t, o, order.Lits, l)
	for _, c := range l {
		wants(t, o, order.Clauses, []clauses{
			{api.Clause{c.one}, api.Clause{c.two}, c.want},
			{api.Clause{ne(x(5), of(q)), c.one}, api.Clause{c.two, ne(x(5), of(q))}, c.want},
			{api.Clause{c.one, atom(of(q)), eq(x(4), of(a))}, api.Clause{eq(of(a), x(4)), atom(of(q)), c.two}, c.want},
			{api.Clause{c.one, c.one}, api.Clause{c.two, c.two}, c.want},
		})
	}
}

func wantsClauses(t *testing.T, o api.Order, l ...clauses) {
	t.Helper()
	wants(t, o, order.Clauses, l)
}

// wantsMost wants the literals at just these places to be maximal, and at just those to be so strictly.
func wantsMost(t *testing.T, o api.Order, c api.Clause, maximal, strictly []int) {
	t.Helper()
	for i := -2; i < len(c)+3; i++ {
		if got := order.Maximal(o, c, i, false); got != slices.Contains(maximal, i) {
			t.Errorf("%v: %s: %d: %v", o, show(c), i, got)
		}
		if got := order.Maximal(o, c, i, true); got != slices.Contains(strictly, i) {
			t.Errorf("%v: %s: %d strictly: %v", o, show(c), i, got)
		}
	}
}

func TestExamples(t *testing.T) {
	ga := of(g, of(a))
	for _, o := range both() {
		wantsLits(t, o,
			lits{eq(ga, of(a)), eq(ga, of(b)), api.RelLess},
			lits{eq(of(a), of(b)), eq(of(b), of(a)), api.RelEqual},
			lits{ne(of(a), of(b)), eq(of(a), of(b)), api.RelGreater})
		wantsClauses(t, o, clauses{api.Clause{eq(ga, of(b))}, api.Clause{eq(ga, of(a)), eq(of(a), of(b))}, api.RelGreater})
		wantsMost(t, o, api.Clause{eq(of(g, x(0)), of(a)), eq(of(g, x(1)), of(a))}, []int{0, 1}, []int{0, 1})
		wantsMost(t, o, api.Clause{eq(of(a), of(b)), eq(of(b), of(a))}, []int{0, 1}, nil)
	}
}

// TestCmp: Lpo alone tells which order it is; where both say otherwise, too.
func TestCmp(t *testing.T) {
	w, r := byWeight(), byRank()
	mixed := w
	mixed.Lpo = true
	s, u := of(g, of(a)), of(f, of(b), of(b))
	v, y := of(f, x(0), of(a)), of(g, x(0))
	wants(t, w, order.Cmp, []stand[api.Term]{{s, u, api.RelLess}, {v, y, api.RelGreater}, {s, s, api.RelEqual}, {x(0), x(1), api.RelNone}})
	for _, o := range []api.Order{r, mixed} {
		wants(t, o, order.Cmp, []stand[api.Term]{{s, u, api.RelGreater}, {v, y, api.RelLess}, {s, s, api.RelEqual}, {x(0), x(1), api.RelNone}})
	}
	for _, o := range append(orders(t), oddOrders()...) {
		for _, s := range oddTerms() {
			for _, u := range oddTerms() {
				want := kbo.Cmp(o, s, u)
				if o.Lpo {
					want = lpo.Cmp(o, s, u)
				}
				if got := order.Cmp(o, s, u); got != want {
					t.Errorf("%v: %v and %v: %v, not %v", o, s, u, got, want)
				}
			}
		}
	}
}

// TestSidesInAnyOrder: a literal is what it is turned round.
func TestSidesInAnyOrder(t *testing.T) {
	for _, o := range both() {
		for _, s := range []api.Term{x(0), of(a), of(g, x(0)), of(f, x(1), of(a))} {
			for _, u := range []api.Term{x(0), x(1), of(a), of(b), of(g, x(1)), of(0)} {
				wantsLits(t, o,
					lits{eq(s, u), eq(s, u), api.RelEqual},
					lits{eq(s, u), eq(u, s), api.RelEqual},
					lits{ne(s, u), ne(s, u), api.RelEqual},
					lits{ne(s, u), ne(u, s), api.RelEqual},
					lits{ne(s, u), eq(s, u), api.RelGreater},
					lits{ne(s, u), eq(u, s), api.RelGreater})
			}
		}
	}
}

// TestEquations by what differs on the greater side, on the lesser one, on both.
func TestEquations(t *testing.T) {
	for _, o := range both() {
		wantsLits(t, o,
			lits{eq(of(g, of(b)), of(a)), eq(of(g, of(a)), of(a)), api.RelGreater},
			lits{eq(of(g, of(b)), of(a)), eq(of(g, of(a)), of(b)), api.RelGreater},
			lits{eq(of(g, of(b)), of(a)), eq(of(b), of(g, of(a))), api.RelGreater},
			lits{eq(of(g, of(b)), of(a)), eq(of(g, of(a)), of(g, of(a))), api.RelGreater},
			lits{eq(of(g, of(b)), of(b)), eq(of(g, of(b)), of(a)), api.RelGreater},
			lits{eq(of(b), of(g, of(b))), eq(of(g, of(b)), of(a)), api.RelGreater},
			lits{eq(of(g, of(b)), of(g, of(b))), eq(of(g, of(b)), of(a)), api.RelGreater},
			lits{eq(of(a), of(a)), eq(of(b), of(a)), api.RelLess},
			lits{eq(of(g, x(0)), of(a)), eq(x(0), of(b)), api.RelGreater},
			lits{eq(of(g, x(0)), x(1)), eq(x(0), x(1)), api.RelGreater},
			lits{eq(of(g, x(0)), of(g, x(1))), eq(x(0), x(1)), api.RelGreater},
			lits{eq(of(g, x(0)), of(g, x(1))), eq(x(1), x(0)), api.RelGreater},
			lits{eq(of(g, x(0)), of(g, x(1))), eq(x(0), x(0)), api.RelGreater},
			lits{eq(of(g, x(0)), of(g, x(1))), eq(of(g, x(1)), x(0)), api.RelGreater},
			lits{eq(of(f, x(0), x(1)), of(f, x(1), x(0))), eq(x(0), x(1)), api.RelGreater},
			lits{eq(of(g, x(0)), of(a)), eq(of(g, x(1)), of(a)), api.RelNone},
			lits{eq(of(g, x(0)), x(0)), eq(of(g, x(0)), x(1)), api.RelNone},
			lits{eq(of(g, x(0)), x(1)), eq(x(0), x(2)), api.RelNone},
			lits{eq(of(g, x(0)), x(1)), eq(x(1), x(2)), api.RelNone},
			lits{eq(x(0), x(1)), eq(x(0), x(2)), api.RelNone},
			lits{eq(x(0), x(0)), eq(x(0), x(1)), api.RelNone},
			lits{eq(of(g, of(b)), x(0)), eq(of(g, of(a)), x(1)), api.RelNone})
	}
}

// TestInequations stand to one another by both sides together, and to equations as both sides together to each.
func TestInequations(t *testing.T) {
	ga, gb := of(g, of(a)), of(g, of(b))
	for _, o := range both() {
		wantsLits(t, o,
			lits{ne(gb, of(a)), ne(ga, of(b)), api.RelGreater},
			lits{ne(gb, of(a)), ne(ga, ga), api.RelGreater},
			lits{ne(of(a), of(a)), ne(of(b), of(a)), api.RelLess},
			lits{ne(of(g, x(0)), x(1)), ne(x(1), x(0)), api.RelGreater},
			lits{ne(of(g, x(0)), x(1)), ne(x(0), x(2)), api.RelNone},
			lits{ne(x(0), x(0)), ne(x(0), x(1)), api.RelNone},
			lits{ne(of(f, x(0), x(1)), of(a)), ne(x(0), x(1)), api.RelGreater},
			lits{ne(of(a), of(a)), eq(of(a), of(a)), api.RelGreater},
			lits{ne(of(a), of(b)), eq(of(b), of(b)), api.RelGreater},
			lits{ne(of(a), of(a)), eq(of(a), of(b)), api.RelLess},
			lits{ne(of(b), of(a)), eq(ga, of(a)), api.RelLess},
			lits{ne(ga, of(a)), eq(ga, ga), api.RelGreater},
			lits{ne(ga, of(a)), eq(of(a), gb), api.RelLess},
			lits{ne(ga, of(a)), eq(ga, of(b)), api.RelGreater},
			lits{ne(x(0), x(1)), eq(x(0), x(0)), api.RelGreater},
			lits{ne(x(0), x(1)), eq(x(0), x(2)), api.RelNone},
			lits{ne(of(g, x(0)), of(a)), eq(of(g, x(0)), ga), api.RelNone},
			lits{ne(of(g, x(0)), of(a)), eq(of(g, x(0)), x(0)), api.RelGreater},
			lits{ne(x(0), of(a)), eq(of(g, x(0)), of(a)), api.RelLess},
			lits{ne(x(0), x(1)), eq(of(g, x(0)), of(a)), api.RelNone},
			lits{ne(x(0), x(1)), eq(of(g, x(0)), of(g, x(1))), api.RelNone},
			lits{ne(x(0), x(1)), eq(of(a), of(f, x(1), x(0))), api.RelLess})
	}
}

// TestAtoms: $true is their right side, below all other ground terms.
func TestAtoms(t *testing.T) {
	for _, o := range both() {
		wantsLits(t, o,
			lits{atom(of(p, of(b))), atom(of(p, of(a))), api.RelGreater},
			lits{deny(of(p, of(a))), atom(of(p, of(a))), api.RelGreater},
			lits{deny(of(p, of(a))), atom(of(p, of(b))), api.RelLess},
			lits{deny(of(p, of(b))), deny(of(p, of(a))), api.RelGreater},
			lits{atom(of(p, x(0))), atom(of(p, x(1))), api.RelNone},
			lits{atom(of(p, x(0))), deny(of(p, x(1))), api.RelNone},
			lits{atom(of(p, of(g, x(0)))), deny(of(p, x(0))), api.RelGreater},
			lits{atom(of(p, of(a))), eq(of(a), of(b)), api.RelGreater},
			lits{atom(of(q)), atom(of(q)), api.RelEqual},
			lits{atom(of(0)), atom(of(q)), api.RelLess},
			lits{atom(of(0)), deny(of(0)), api.RelLess})
	}
}

// TestClausesInAnyOrder: with its literals in another order, turned round, a clause is what it is; with one of them once more it is above, with one less below.
func TestClausesInAnyOrder(t *testing.T) {
	l := api.Clause{eq(of(g, x(0)), of(a)), ne(x(0), x(1)), atom(of(p, x(1))), ne(of(b), of(a)), eq(x(0), x(1)), deny(of(q))}
	turned := api.Clause{deny(of(q)), ne(of(a), of(b)), eq(of(a), of(g, x(0))), eq(x(1), x(0)), ne(x(1), x(0)), eq(of(0), of(p, x(1)))}
	for _, o := range both() {
		wantsClauses(t, o, clauses{l, l, api.RelEqual}, clauses{l, turned, api.RelEqual})
		for i := range l {
			more := append(slices.Clone(turned), l[i])
			less := slices.Delete(slices.Clone(l), i, i+1)
			other := append(slices.Clone(less), eq(x(7), x(8)))
			wantsClauses(t, o,
				clauses{more, l, api.RelGreater},
				clauses{more, append(api.Clause{l[i]}, l...), api.RelEqual},
				clauses{less, turned, api.RelLess},
				clauses{more, less, api.RelGreater},
				clauses{other, l, api.RelNone},
				clauses{other, less, api.RelGreater})
		}
	}
}

// TestSharedLiterals: what both have counts for nothing, as often as both have it.
func TestSharedLiterals(t *testing.T) {
	one, two, three := eq(of(h, of(a)), of(a)), eq(of(g, of(a)), of(a)), eq(of(b), of(a))
	v, y := eq(of(g, x(0)), x(0)), eq(of(g, x(1)), x(1))
	for _, o := range both() {
		wantsClauses(t, o,
			clauses{api.Clause{one}, api.Clause{two, two, three, three, two}, api.RelGreater},
			clauses{api.Clause{one, three}, api.Clause{two, two}, api.RelGreater},
			clauses{api.Clause{one, three}, api.Clause{one, two}, api.RelLess},
			clauses{api.Clause{one, three}, api.Clause{one, one}, api.RelLess},
			clauses{api.Clause{one, one, three}, api.Clause{one, two, two}, api.RelGreater},
			clauses{api.Clause{one, one, two}, api.Clause{two, one, two}, api.RelGreater},
			clauses{api.Clause{one, one}, api.Clause{one}, api.RelGreater},
			clauses{api.Clause{one, one}, api.Clause{one, one}, api.RelEqual},
			clauses{api.Clause{one, one, one}, api.Clause{one, one}, api.RelGreater},
			clauses{api.Clause{one}, api.Clause{one, three}, api.RelLess},
			clauses{api.Clause{v}, api.Clause{y}, api.RelNone},
			clauses{api.Clause{v, y}, api.Clause{y, v}, api.RelEqual},
			clauses{api.Clause{v, v}, api.Clause{y, v}, api.RelNone},
			clauses{api.Clause{v, y}, api.Clause{v}, api.RelGreater},
			clauses{api.Clause{v, two}, api.Clause{y, three}, api.RelNone},
			clauses{api.Clause{v, y}, api.Clause{y, three}, api.RelGreater},
			clauses{api.Clause{v, three}, api.Clause{y, three}, api.RelNone},
			clauses{api.Clause{v, y, two}, api.Clause{y, v, three}, api.RelGreater},
			clauses{api.Clause{v, two}, api.Clause{v, three, three}, api.RelGreater},
			clauses{api.Clause{v, y}, api.Clause{eq(x(0), x(0)), eq(x(1), x(1))}, api.RelGreater},
			clauses{api.Clause{v, y}, api.Clause{eq(x(0), x(0)), eq(x(2), x(2))}, api.RelNone})
	}
}

func TestEmptyClause(t *testing.T) {
	for _, o := range both() {
		for _, none := range []api.Clause{nil, {}} {
			wantsClauses(t, o,
				clauses{nil, none, api.RelEqual},
				clauses{none, api.Clause{eq(x(0), x(0))}, api.RelLess},
				clauses{none, api.Clause{atom(of(0))}, api.RelLess},
				clauses{none, api.Clause{eq(x(0), x(1)), ne(x(0), x(1)), atom(of(q))}, api.RelLess})
			wantsMost(t, o, none, nil, nil)
		}
	}
}

// fullClause has as many literals as may be, each above those ahead of it.
func fullClause() api.Clause {
	var c api.Clause
	for i := range api.MaxLits {
		c = append(c, eq(nest(i/2, g, of(a)), nest(i-i/2, g, of(a))))
	}
	return c
}

func TestFullClauses(t *testing.T) {
	c := fullClause()
	last := len(c) - 1
	back := slices.Clone(c)
	slices.Reverse(back)
	for _, o := range both() {
		wantsClauses(t, o,
			clauses{c, back, api.RelEqual},
			clauses{c, c[:last], api.RelGreater},
			clauses{c, c[1:], api.RelGreater},
			clauses{c[:last], c[1:], api.RelLess},
			clauses{c[last:], c[:last], api.RelGreater},
			clauses{c[3:4], c[:3], api.RelGreater},
			clauses{c, append(slices.Clone(c[:last]), deny(of(p, nest(9, g, of(b))))), api.RelLess},
			clauses{c, append(slices.Clone(c[:last]), eq(x(0), x(1))), api.RelNone},
			clauses{c[:last], append(slices.Clone(c[:last]), eq(x(0), x(1))), api.RelLess})
		wantsMost(t, o, c, []int{last}, []int{last})
		wantsMost(t, o, back, []int{0}, []int{0})
	}
}

// TestMaximal: at the first place, a middle one and the last one.
func TestMaximal(t *testing.T) {
	top, low, least := eq(of(g, of(g, x(0))), of(a)), eq(of(g, x(0)), of(a)), eq(x(0), of(a))
	aside := eq(of(g, x(1)), of(a))
	for _, o := range both() {
		wantsMost(t, o, api.Clause{low}, []int{0}, []int{0})
		wantsMost(t, o, api.Clause{top, low, least}, []int{0}, []int{0})
		wantsMost(t, o, api.Clause{low, top, least}, []int{1}, []int{1})
		wantsMost(t, o, api.Clause{low, least, top}, []int{2}, []int{2})
		wantsMost(t, o, api.Clause{aside, low, top, least}, []int{0, 2}, []int{0, 2})
		wantsMost(t, o, api.Clause{top, low, aside, eq(x(1), x(2))}, []int{0, 2, 3}, []int{0, 2, 3})
		wantsMost(t, o, api.Clause{top, low, top}, []int{0, 2}, nil)
		wantsMost(t, o, api.Clause{top, top, aside}, []int{0, 1, 2}, []int{2})
		wantsMost(t, o, api.Clause{aside, top, least, eq(of(a), top.L)}, []int{0, 1, 3}, []int{0})
		wantsMost(t, o, api.Clause{top, low, low}, []int{0}, []int{0})
		wantsMost(t, o, api.Clause{top, low, ne(top.L, top.R)}, []int{2}, []int{2})
		wantsMost(t, o, api.Clause{ne(x(0), x(1)), ne(x(1), x(0)), eq(x(0), x(1))}, []int{0, 1}, nil)
		wantsMost(t, o, api.Clause{atom(of(p, x(0))), deny(of(p, x(1))), atom(of(p, of(g, x(0))))}, []int{1, 2}, []int{1, 2})
	}
}

func TestTurned(t *testing.T) {
	for _, o := range both() {
		for _, c := range []stand[api.Term]{
			{of(a), of(b), api.RelLess},
			{of(g, x(0)), x(0), api.RelGreater},
			{x(0), of(f, x(1), x(0)), api.RelLess},
			{x(0), x(0), api.RelEqual},
			{of(f, x(0), of(a)), of(f, x(0), of(a)), api.RelEqual},
			{x(0), x(1), api.RelNone},
			{of(f, x(0), x(1)), of(f, x(1), x(0)), api.RelNone},
			{of(a), x(0), api.RelNone},
			{of(p, x(0)), of(0), api.RelGreater},
		} {
			for _, l := range []api.Lit{eq(c.one, c.two), ne(c.one, c.two)} {
				if got := order.Turned(o, l); got != (c.want == api.RelLess) {
					t.Errorf("%v: %v: %v", o, l, got)
				}
				l.L, l.R = l.R, l.L
				if got := order.Turned(o, l); got != (c.want == api.RelGreater) {
					t.Errorf("%v: %v: %v", o, l, got)
				}
			}
		}
	}
	turn := eq(of(g, of(a)), of(f, of(b), of(b)))
	if !order.Turned(byWeight(), turn) || order.Turned(byRank(), turn) {
		t.Error("Lpo tells which order it is")
	}
}
