package prec_test

import (
	"fmt"
	"math"
	"slices"
	"testing"

	"syllogism/api"
	"syllogism/prec"
)

var truth = api.Sym{Name: "$true", Pred: true}

func fun(name string, arity int) api.Sym  { return api.Sym{Name: name, Arity: arity} }
func pred(name string, arity int) api.Sym { return api.Sym{Name: name, Arity: arity, Pred: true} }

// over is a signature of $true and these.
func over(l ...api.Sym) api.Sig { return api.Sig{Syms: append([]api.Sym{truth}, l...)} }

// table is the signature of the chapter's table: a 1, f 2, g 3.
func table() api.Sig { return over(fun("a", 0), fun("f", 2), fun("g", 1)) }

func of(n int, args ...api.Term) api.Term { return api.Term{Fun: n, Args: args} }
func x(k int) api.Term                    { return api.Term{Fun: -1 - k} }

func atom(t api.Term) api.Lit      { return api.Lit{L: t} }
func eq(l, r api.Term) api.Lit     { return api.Lit{L: l, R: r} }
func no(l api.Lit) api.Lit         { l.Neg = true; return l }
func lits(l ...api.Lit) api.Clause { return l }

func clauses(l ...api.Clause) []api.Clause { return l }

// times is a clause with the atom t so many times, cut into clauses that may be.
func times(n int, t api.Term) []api.Clause {
	var l []api.Clause
	for n > 0 {
		k := min(n, api.MaxLits)
		l = append(l, slices.Repeat(lits(atom(t)), k))
		n -= k
	}
	return l
}

// tell names a way, for what failures say.
func tell(way api.OrderWay) string {
	return fmt.Sprintf("lpo %v prec %d weight %d top %v", way.Lpo, way.Prec, way.Weight, way.Top)
}

// ways is all there are.
func ways() []api.OrderWay {
	var l []api.OrderWay
	for _, p := range []api.PrecBy{api.PrecNumber, api.PrecArity, api.PrecUnary, api.PrecOften, api.PrecSeldom} {
		for _, w := range []api.WeightBy{api.WeightOne, api.WeightArity, api.WeightRank, api.WeightOften} {
			for k := range 4 {
				l = append(l, api.OrderWay{Prec: p, Weight: w, Top: k%2 == 1, Lpo: k/2 == 1})
			}
		}
	}
	return l
}

// made wants an order that may be, twice the same, and tells it.
func made(t *testing.T, sig api.Sig, l []api.Clause, way api.OrderWay) api.Order {
	t.Helper()
	o, e := prec.Make(sig, l, way)
	if e != api.OK {
		t.Fatal(tell(way), e)
	}
	if e := prec.Check(sig, o); e != api.OK || !may(sig, o) {
		t.Error(tell(way), "may not be:", o)
	}
	if again, e := prec.Make(sig, l, way); e != api.OK || !same(o, again) {
		t.Error(tell(way), "not the same again:", o, again, e)
	}
	return o
}

func same(a, b api.Order) bool {
	return a.Lpo == b.Lpo && a.Var == b.Var && slices.Equal(a.Prec, b.Prec) && slices.Equal(a.Weights, b.Weights)
}

// wants holds an order made against what is to be.
func wants(t *testing.T, sig api.Sig, l []api.Clause, way api.OrderWay, ranks, weights []int) {
	t.Helper()
	o := made(t, sig, l, way)
	w := api.Order{Lpo: way.Lpo, Prec: ranks, Weights: weights, Var: 1}
	if way.Lpo {
		w.Weights, w.Var = nil, 0
	}
	if !same(o, w) {
		t.Errorf("%s: %v, not %v", tell(way), o, w)
	}
}

func TestExamples(t *testing.T) {
	l := clauses(lits(eq(of(3, of(1)), of(1))))
	for _, c := range []struct {
		way            api.OrderWay
		ranks, weights []int
	}{
		{api.OrderWay{}, []int{0, 1, 2, 3}, []int{1, 1, 1, 1}},
		{api.OrderWay{Prec: api.PrecArity, Weight: api.WeightArity, Top: true}, []int{0, 1, 3, 2}, []int{1, 1, 3, 2}},
		{api.OrderWay{Prec: api.PrecUnary, Top: true}, []int{0, 1, 2, 3}, []int{1, 1, 1, 0}},
		{api.OrderWay{Prec: api.PrecOften, Weight: api.WeightOften}, []int{0, 3, 1, 2}, []int{1, 3, 1, 2}},
	} {
		wants(t, table(), l, c.way, c.ranks, c.weights)
		c.way.Lpo = true
		wants(t, table(), l, c.way, c.ranks, nil)
	}
}

// TestEachWay goes through them by hand: of some clauses in which f stands once, g three times, a four, p twice, q and b never.
func TestEachWay(t *testing.T) {
	sig := over(fun("f", 2), fun("g", 1), pred("p", 1), fun("a", 0), pred("q", 3), fun("b", 0))
	f, g, p, a := 1, 2, 3, 4
	l := clauses(
		lits(eq(of(f, of(g, of(a)), x(0)), of(a)), no(atom(of(p, of(g, of(g, x(1))))))),
		nil,
		lits(atom(of(p, of(a))), no(eq(x(2), of(a)))))
	if n, e := prec.Counts(sig, l); e != api.OK || !slices.Equal(n, []int{0, 1, 3, 2, 4, 0, 0}) {
		t.Error(n, e)
	}
	ranks := [...][]int{
		api.PrecNumber: {0, 1, 2, 3, 4, 5, 6},
		api.PrecArity:  {0, 5, 3, 4, 1, 6, 2},
		api.PrecUnary:  {0, 3, 5, 6, 1, 4, 2},
		api.PrecOften:  {0, 3, 5, 4, 6, 1, 2},
		api.PrecSeldom: {0, 4, 2, 3, 1, 5, 6},
	}
	for _, way := range ways() {
		r := ranks[way.Prec]
		w := [...][]int{
			api.WeightOne:   {1, 1, 1, 1, 1, 1, 1},
			api.WeightArity: {1, 3, 2, 2, 1, 4, 1},
			api.WeightRank:  {1, r[1] + 1, r[2] + 1, r[3] + 1, r[4] + 1, r[5] + 1, r[6] + 1},
			api.WeightOften: {1, 2, 4, 3, 5, 1, 1},
		}[way.Weight]
		if way.Top && way.Prec == api.PrecUnary {
			w[p] = 0 // the only highest one of one argument
		}
		wants(t, sig, l, way, r, w)
	}
}

// TestTruthAlone: with nothing above it $true is the highest, and weighs 1 all the same.
func TestTruthAlone(t *testing.T) {
	for _, l := range [][]api.Clause{nil, {}, {nil}, {{}, {}}, clauses(lits(atom(x(0)))), clauses(lits(eq(x(0), x(1)), no(eq(x(47), x(0)))))} {
		if n, e := prec.Counts(over(), l); e != api.OK || !slices.Equal(n, []int{0}) {
			t.Error(l, n, e)
		}
		for _, way := range ways() {
			wants(t, over(), l, way, []int{0}, []int{1})
		}
	}
}

// TestTop: just a highest symbol of one argument weighs 0, a predicate too.
func TestTop(t *testing.T) {
	for _, c := range []struct {
		l       []api.Sym
		weights []int
	}{
		{[]api.Sym{fun("g", 1), fun("a", 0)}, []int{1, 1, 1}},
		{[]api.Sym{fun("a", 0), fun("g", 1)}, []int{1, 1, 0}},
		{[]api.Sym{fun("g", 1), fun("h", 1)}, []int{1, 1, 0}},
		{[]api.Sym{fun("g", 1), fun("f", 2)}, []int{1, 1, 1}},
		{[]api.Sym{fun("g", 1), pred("q", 0)}, []int{1, 1, 1}},
		{[]api.Sym{fun("g", 1), pred("p", 1)}, []int{1, 1, 0}},
		{[]api.Sym{pred("p", 1)}, []int{1, 0}},
		{[]api.Sym{pred("p", 6)}, []int{1, 1}},
	} {
		o := made(t, over(c.l...), nil, api.OrderWay{Top: true})
		if !slices.Equal(o.Weights, c.weights) {
			t.Error(c.l, o)
		}
		o = made(t, over(c.l...), nil, api.OrderWay{})
		if slices.Contains(o.Weights, 0) {
			t.Error("without Top:", c.l, o)
		}
	}
	sig := over(fun("g", 1), fun("f", 2), fun("h", 1))
	for by, weights := range [...][]int{
		api.WeightOne:   {1, 1, 1, 0},
		api.WeightArity: {1, 2, 3, 0},
		api.WeightRank:  {1, 3, 2, 0},
		api.WeightOften: {1, 1, 1, 0},
	} {
		wants(t, sig, nil, api.OrderWay{Prec: api.PrecUnary, Weight: api.WeightBy(by), Top: true}, []int{0, 2, 1, 3}, weights)
	}
}

// TestUnary: of no, one and many symbols of one argument.
func TestUnary(t *testing.T) {
	for _, c := range []struct {
		l     []api.Sym
		ranks []int
	}{
		{[]api.Sym{fun("f", 2), fun("a", 0), pred("p", 6), fun("b", 0)}, []int{0, 3, 1, 4, 2}},
		{[]api.Sym{fun("f", 2), fun("g", 1), pred("p", 6), fun("b", 0)}, []int{0, 2, 4, 3, 1}},
		{[]api.Sym{fun("g", 1), fun("f", 2), pred("p", 1), fun("b", 0), fun("h", 1)}, []int{0, 3, 2, 4, 1, 5}},
		{[]api.Sym{fun("g", 1), fun("h", 1), pred("g", 1)}, []int{0, 1, 2, 3}},
	} {
		if o := made(t, over(c.l...), nil, api.OrderWay{Prec: api.PrecUnary}); !slices.Equal(o.Prec, c.ranks) {
			t.Error(c.l, o)
		}
	}
}

// TestMaxWeight: what would weigh more weighs that; $true stays at 1.
func TestMaxWeight(t *testing.T) {
	sig := over(fun("a", 0), pred("p", 1))
	for _, c := range []struct{ n, weight int }{{0, 1}, {1, 2}, {998, 999}, {999, 1000}, {1000, 1000}, {1001, 1000}, {5000, 1000}} {
		l := times(c.n, of(2, of(1)))
		wants(t, sig, l, api.OrderWay{Weight: api.WeightOften}, []int{0, 1, 2}, []int{1, c.weight, c.weight})
		wants(t, sig, l, api.OrderWay{Weight: api.WeightOften, Top: true}, []int{0, 1, 2}, []int{1, c.weight, 0})
		wants(t, sig, l, api.OrderWay{}, []int{0, 1, 2}, []int{1, 1, 1})
	}
}

// TestOftenBeyondMaxWeight: ranks go by how often a symbol stands there, whatever it weighs.
func TestOftenBeyondMaxWeight(t *testing.T) {
	sig := over(fun("a", 0), fun("b", 0), pred("p", 1))
	l := append(times(1002, of(3, of(1))), times(1001, of(3, of(2)))...)
	wants(t, sig, l, api.OrderWay{Prec: api.PrecOften, Weight: api.WeightOften}, []int{0, 2, 1, 3}, []int{1, 1000, 1000, 1000})
	wants(t, sig, l, api.OrderWay{Prec: api.PrecSeldom, Weight: api.WeightOften}, []int{0, 2, 3, 1}, []int{1, 1000, 1000, 1000})
}

// TestCounts: in all terms of all literals, deep inside too, but $true as R.
func TestCounts(t *testing.T) {
	sig := over(fun("a", 0), fun("f", 2), fun("g", 1), pred("p", 1), pred("q", 0))
	a, f, g, p, q := 1, 2, 3, 4, 5
	deep := of(a)
	for range 29 {
		deep = of(g, deep)
	}
	for _, c := range []struct {
		l []api.Clause
		n []int
	}{
		{nil, []int{0, 0, 0, 0, 0, 0}},
		{clauses(nil, lits(), nil), []int{0, 0, 0, 0, 0, 0}},
		{clauses(lits(atom(of(q)))), []int{0, 0, 0, 0, 0, 1}},
		{clauses(lits(no(atom(of(q))), atom(of(q))), lits(no(atom(of(q))))), []int{0, 0, 0, 0, 0, 3}},
		{clauses(lits(atom(of(p, x(0)))), lits(atom(of(p, of(f, of(a), of(a)))))), []int{0, 2, 1, 0, 2, 0}},
		{clauses(lits(eq(x(0), x(1)), no(eq(of(a), x(0))), eq(x(47), of(a)))), []int{0, 2, 0, 0, 0, 0}},
		{clauses(lits(eq(of(f, of(g, of(a)), of(f, x(1), of(g, of(g, x(0))))), of(f, of(a), of(a))))), []int{0, 3, 3, 3, 0, 0}},
		{clauses(lits(eq(deep, deep)), lits(no(eq(deep, x(3))))), []int{0, 3, 0, 87, 0, 0}},
		{slices.Repeat(clauses(lits(eq(of(a), of(g, of(a))))), 700), []int{0, 1400, 0, 700, 0, 0}},
	} {
		n, e := prec.Counts(sig, c.l)
		if e != api.OK || !slices.Equal(n, c.n) {
			t.Error(c.l, n, e)
		}
	}
}

func TestHigher(t *testing.T) {
	ranks := []int{-7, 4, math.MaxInt, 4, math.MinInt, 0}
	for _, o := range []api.Order{{Prec: ranks}, {Prec: ranks, Lpo: true, Var: -3}, {Prec: ranks, Weights: []int{1, 2, 3}}} {
		for f := -3; f < 9; f++ {
			for g := -3; g < 9; g++ {
				want := f >= 0 && f < 6 && g >= 0 && g < 6 && ranks[f] > ranks[g]
				if prec.Higher(o, f, g) != want {
					t.Error(f, g, !want)
				}
			}
		}
	}
	for _, o := range []api.Order{{}, {Prec: []int{}}, {Weights: []int{1, 2, 3}, Var: 1}} {
		for _, p := range [][2]int{{0, 0}, {1, 0}, {0, 1}, {-1, 0}, {math.MaxInt, math.MinInt}} {
			if prec.Higher(o, p[0], p[1]) {
				t.Error(o, p)
			}
		}
	}
	full := make([]int, 2, 4)
	copy(full[:4], []int{0, 1, 2, 3})
	for _, p := range [][2]int{{math.MinInt, 0}, {math.MaxInt, 0}, {0, math.MinInt}, {1, math.MaxInt}, {1, -1}, {2, 0}, {3, 0}, {2, 1}, {0, 1}, {1, 1}} {
		if prec.Higher(api.Order{Prec: full}, p[0], p[1]) {
			t.Error(p)
		}
	}
	if !prec.Higher(api.Order{Prec: full}, 1, 0) {
		t.Error("the last one and the first one")
	}
}

// TestHigherOfWhatIsMade: exactly one of two ranks above the other one, $true above none.
func TestHigherOfWhatIsMade(t *testing.T) {
	sig := over(fun("g", 1), fun("a", 0), pred("p", 1), fun("f", 2))
	for _, way := range ways() {
		o := made(t, sig, nil, way)
		for f := range sig.Syms {
			for g := range sig.Syms {
				if (f != g) != (prec.Higher(o, f, g) != prec.Higher(o, g, f)) || f == 0 && prec.Higher(o, f, g) {
					t.Error(tell(way), f, g)
				}
			}
		}
	}
}
