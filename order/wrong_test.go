package order_test

import (
	"math"
	"slices"
	"testing"
	"time"

	"syllogism/api"
	"syllogism/order"
)

// TestNoSuchLiteral: where there is none, none is maximal.
func TestNoSuchLiteral(t *testing.T) {
	for _, o := range append(both(), api.Order{}) {
		for _, c := range []api.Clause{nil, {}, {eq(of(a), of(b))}, {eq(of(a), of(b)), atom(of(q))}, fullClause()} {
			n := len(c)
			for _, i := range []int{-1, -2, -n, -n - 1, n, n + 1, n + 16, 1 << 20, math.MaxInt32, math.MinInt32, math.MaxInt, math.MinInt, math.MinInt + 1} {
				if i >= 0 && i < n {
					continue
				}
				if order.Maximal(o, c, i, false) || order.Maximal(o, c, i, true) {
					t.Error(o, show(c), i)
				}
			}
		}
	}
}

// strangers are terms that neither order knows.
func strangers() []api.Term {
	return []api.Term{
		of(8), of(9, x(0)), of(math.MaxInt), of(g, of(8)), of(f, x(0), of(g, of(96, of(a)))),
		x(0, of(a)), x(1, x(1)), x(0, x(0), x(0)), of(f, of(a), x(0, of(b))), of(math.MinInt, of(a)),
	}
}

// TestStrangeTerms stand in no way to others, but are the same as themselves where multisets are held against each other.
func TestStrangeTerms(t *testing.T) {
	for _, o := range both() {
		for i, s := range strangers() {
			other := strangers()[(i+1)%len(strangers())]
			wants(t, o, order.Cmp, []stand[api.Term]{{s, s, api.RelNone}, {s, of(a), api.RelNone}, {s, x(0), api.RelNone}, {of(g, s), s, api.RelNone}})
			wantsLits(t, o,
				lits{eq(s, of(a)), eq(s, of(a)), api.RelEqual},
				lits{eq(s, of(a)), eq(of(a), s), api.RelEqual},
				lits{ne(s, other), ne(other, s), api.RelEqual},
				lits{ne(s, of(a)), eq(s, of(a)), api.RelGreater},
				lits{ne(s, s), eq(s, s), api.RelGreater},
				lits{eq(s, of(b)), eq(s, of(a)), api.RelGreater},
				lits{ne(s, of(b)), ne(of(a), s), api.RelGreater},
				lits{eq(s, s), eq(s, of(a)), api.RelNone},
				lits{eq(s, of(a)), eq(other, of(a)), api.RelNone},
				lits{eq(s, of(a)), eq(of(a), of(a)), api.RelNone},
				lits{eq(s, of(b)), eq(of(a), of(a)), api.RelGreater},
				lits{ne(s, of(b)), eq(of(a), of(a)), api.RelGreater},
				lits{eq(of(g, s), of(b)), eq(s, of(b)), api.RelNone},
				lits{eq(s, s), eq(other, other), api.RelNone})
			bad := eq(s, of(a))
			wantsClauses(t, o,
				clauses{api.Clause{bad, atom(of(q))}, api.Clause{atom(of(q)), bad}, api.RelEqual},
				clauses{api.Clause{bad, deny(of(q))}, api.Clause{atom(of(q)), bad}, api.RelGreater},
				clauses{api.Clause{bad}, nil, api.RelGreater},
				clauses{api.Clause{bad}, api.Clause{bad, bad}, api.RelLess},
				clauses{api.Clause{bad, atom(of(q))}, api.Clause{atom(of(q))}, api.RelGreater},
				clauses{api.Clause{bad, atom(of(q))}, api.Clause{deny(of(q))}, api.RelNone})
			wantsMost(t, o, api.Clause{bad}, []int{0}, []int{0})
			wantsMost(t, o, api.Clause{bad, atom(of(q)), deny(of(q))}, []int{0, 2}, []int{0, 2})
			wantsMost(t, o, api.Clause{bad, eq(of(b), of(a)), eq(of(a), s)}, []int{0, 1, 2}, []int{1})
			for _, l := range []api.Lit{eq(s, s), eq(s, of(a)), eq(of(a), s), ne(s, other)} {
				if order.Turned(o, l) {
					t.Error(o, l)
				}
			}
		}
	}
}

// TestNoArguments: whether a list of none is there or not, a term is the same.
func TestNoArguments(t *testing.T) {
	none := []api.Term{}
	for _, o := range both() {
		wantsLits(t, o, lits{eq(api.Term{Fun: a, Args: none}, api.Term{Fun: -1, Args: none}), eq(x(0), of(a)), api.RelEqual})
	}
}

// TestOrderThatKnowsTooLittle: symbols without a rank, or, of a KBO, without a weight.
func TestOrderThatKnowsTooLittle(t *testing.T) {
	ranks := byRank().Prec
	for _, o := range []api.Order{
		{}, {Lpo: true}, {Weights: ranks, Var: 1}, {Lpo: true, Weights: ranks}, {Prec: ranks}, {Prec: ranks, Weights: []int{}, Var: 1},
		{Prec: []int{0}, Weights: []int{1}, Var: 1}, {Lpo: true, Prec: []int{0}}, {Prec: ranks, Weights: []int{1}, Var: 1},
	} {
		wants(t, o, order.Cmp, []stand[api.Term]{{of(a), of(a), api.RelNone}, {of(a), of(b), api.RelNone}, {x(0), x(0), api.RelEqual}})
		wantsLits(t, o,
			lits{eq(of(a), of(b)), eq(of(b), of(a)), api.RelEqual},
			lits{ne(of(a), of(b)), eq(of(b), of(a)), api.RelGreater},
			lits{eq(of(a), of(a)), eq(of(b), of(a)), api.RelNone},
			lits{eq(x(0), of(a)), eq(of(a), x(0)), api.RelEqual})
		wantsMost(t, o, api.Clause{eq(of(g, of(b)), of(b)), eq(of(a), of(a))}, []int{0, 1}, []int{0, 1})
		if order.Turned(o, eq(of(a), of(g, of(a)))) {
			t.Error(o)
		}
	}
	short := api.Order{Prec: ranks, Weights: []int{1, 1, 1}, Var: 1}
	wantsLits(t, short, lits{eq(of(b), of(a)), eq(of(a), of(a)), api.RelGreater}, lits{eq(of(g, of(b)), of(a)), eq(of(b), of(a)), api.RelNone})
	short.Lpo = true
	wantsLits(t, short, lits{eq(of(b), of(a)), eq(of(a), of(a)), api.RelGreater}, lits{eq(of(g, of(b)), of(a)), eq(of(b), of(a)), api.RelGreater})
}

// TestOneRankTwice: what ranks the same stands in no way, but is not the same.
func TestOneRankTwice(t *testing.T) {
	for _, o := range both() {
		o.Prec = []int{0, 1, 1, 2, 3, 3, 4, 5}
		wantsLits(t, o,
			lits{eq(of(a), of(a)), eq(of(b), of(a)), api.RelNone},
			lits{eq(of(a), of(b)), eq(of(b), of(a)), api.RelEqual},
			lits{ne(of(a), of(b)), ne(of(a), of(a)), api.RelNone},
			lits{eq(of(g, of(a)), of(a)), eq(of(h, of(a)), of(a)), api.RelNone},
			lits{eq(of(g, of(a)), of(b)), eq(of(b), of(a)), api.RelGreater})
		wantsMost(t, o, api.Clause{eq(of(a), of(a)), eq(of(b), of(b)), eq(of(b), of(a))}, []int{0, 1, 2}, []int{0, 1, 2})
	}
}

// roomy lays a list with spare room behind it.
func roomy[E any](l, behind []E) []E {
	out := append(make([]E, 0, len(l)+len(behind)), l...)
	copy(out[:cap(out)][len(l):], behind)
	return out
}

// TestNothingChanged: what was handed in stays as it is, spare room behind it, too.
func TestNothingChanged(t *testing.T) {
	make := func() (api.Clause, []api.Term) {
		args := roomy([]api.Term{of(a), x(0)}, []api.Term{of(9), x(1)})
		s := of(f)
		s.Args = args
		return roomy(api.Clause{eq(s, of(a)), ne(of(b), s), eq(of(a), s)}, api.Clause{atom(of(q)), eq(x(0), x(1))}), args
	}
	for _, o := range both() {
		o.Prec = roomy(o.Prec, []int{-4, 77})
		c, args := make()
		d, _ := make()
		untouched, _ := make()
		if order.Clauses(o, c, d) != api.RelEqual || order.Clauses(o, c, d[:2]) != api.RelGreater || order.Clauses(o, d[1:], c) != api.RelLess || order.Lits(o, c[0], c[2]) != api.RelEqual {
			t.Error(o)
		}
		wantsMost(t, o, c, []int{1}, []int{1})
		order.Turned(o, c[1])
		for i, l := range untouched[:5] {
			if got := c[:5][i]; got.Neg != l.Neg || !same(got.L, l.L) || !same(got.R, l.R) {
				t.Error(o, i, got)
			}
		}
		if !same(of(f, args[:4]...), of(f, of(a), x(0), of(9), x(1))) || !slices.Equal(o.Prec[:10], []int{0, 1, 2, 3, 4, 5, 6, 7, -4, 77}) {
			t.Error(o, args[:4], o.Prec[:10])
		}
	}
}

// TestLongAndDeep: far beyond what may be, it ends.
func TestLongAndDeep(t *testing.T) {
	long := func(from int) api.Clause {
		var c api.Clause
		for i := range 160 {
			c = append(c, eq(x((from+i*7)%160), of(g, x(i*11%160))))
		}
		return c
	}
	done := make(chan struct{})
	go func() {
		defer close(done)
		for _, o := range both() {
			wantsClauses(t, o,
				clauses{long(0), long(0), api.RelEqual},
				clauses{long(0), long(1), api.RelNone},
				clauses{long(0), long(0)[7:], api.RelGreater},
				clauses{long(0)[120:], long(0), api.RelLess})
			deep := nest(50000, g, x(0))
			wantsLits(t, o,
				lits{eq(deep, deep), eq(deep, x(0)), api.RelGreater},
				lits{eq(deep, of(a)), eq(of(a), deep), api.RelEqual},
				lits{eq(deep, of(a)), eq(deep, of(b)), api.RelLess},
				lits{ne(deep, of(8)), eq(deep, of(8)), api.RelGreater})
		}
	}()
	select {
	case <-done:
	case <-time.After(2 * time.Minute):
		t.Fatal("no end")
	}
}
