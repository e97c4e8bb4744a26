package prec_test

import (
	"math"
	"slices"
	"strings"
	"testing"

	"syllogism/api"
	"syllogism/prec"
)

// wrongSigs may not be, each for another reason; most are right but for one place.
func wrongSigs() []api.Sig {
	many := make([]api.Sym, api.MaxSyms)
	for i := range many {
		many[i] = fun("c"+strings.Repeat("c", i%20)+string(rune('a'+i/20)), 0)
	}
	return []api.Sig{
		{}, {Syms: []api.Sym{}}, {Syms: []api.Sym{fun("a", 0)}}, {Syms: []api.Sym{fun("$true", 0)}}, {Syms: []api.Sym{pred("$true", 1)}},
		{Syms: []api.Sym{fun("a", 0), truth}}, over(truth), over(fun("", 0)), over(fun("f-g", 1)), over(fun("a", 0), fun(strings.Repeat("n", 41), 0)),
		over(fun("f", 7)), over(fun("f", -1)), over(fun("a", 0), pred("p", 1), fun("a", 0)), over(many...),
	}
}

// fitting is an order that would be, if the signature were one.
func fitting(sig api.Sig) api.Order {
	o := api.Order{Var: 1}
	for n := range sig.Syms {
		o.Prec, o.Weights = append(o.Prec, n), append(o.Weights, 1)
	}
	return o
}

// refused wants ErrArg and nothing beside it, by each way.
func refused(t *testing.T, sig api.Sig, l []api.Clause) {
	t.Helper()
	if n, e := prec.Counts(sig, l); n != nil || e != api.ErrArg {
		t.Error("Counts", sig, n, e)
	}
	for _, way := range ways() {
		notMade(t, sig, l, way)
	}
}

func notMade(t *testing.T, sig api.Sig, l []api.Clause, way api.OrderWay) {
	t.Helper()
	if o, e := prec.Make(sig, l, way); e != api.ErrArg || o.Lpo || o.Prec != nil || o.Weights != nil || o.Var != 0 {
		t.Error("Make", tell(way), sig, o, e)
	}
}

func TestSignaturesThatMayNotBe(t *testing.T) {
	for _, sig := range wrongSigs() {
		o := fitting(sig)
		if e := prec.Check(sig, o); e != api.ErrArg {
			t.Error(sig, o, e)
		}
		o.Lpo = true
		if e := prec.Check(sig, o); e != api.ErrArg {
			t.Error(sig, o, e)
		}
		refused(t, sig, nil)
		refused(t, sig, clauses(nil, lits(eq(x(0), x(1)))))
		refused(t, sig, clauses(lits(atom(of(99)))))
	}
	if e := prec.Check(over(), api.Order{Prec: []int{0}, Weights: []int{1}, Var: 1}); e != api.OK {
		t.Error(e)
	}
	if e := prec.Check(over(), api.Order{}); e != api.ErrArg {
		t.Error(e)
	}
}

func TestRanksThatMayNotBe(t *testing.T) {
	for _, c := range []struct {
		ranks []int
		e     api.Errno
	}{
		{[]int{0, 1, 2, 3}, api.OK},
		{[]int{-4, -1, -3, -2}, api.OK},
		{[]int{math.MinInt, math.MaxInt, 0, 7}, api.OK},
		{nil, api.ErrArg},
		{[]int{}, api.ErrArg},
		{[]int{0, 1, 2}, api.ErrArg},
		{[]int{0, 1, 2, 3, 4}, api.ErrArg},
		{[]int{0, 1, 1, 3}, api.ErrArg},
		{[]int{0, 3, 2, 3}, api.ErrArg},
		{[]int{0, 0, 1, 2}, api.ErrArg},
		{[]int{0, 1, 2, 0}, api.ErrArg},
		{[]int{1, 0, 2, 3}, api.ErrArg},
		{[]int{0, 1, 2, -1}, api.ErrArg},
		{[]int{3, 2, 1, 0}, api.ErrArg},
		{[]int{0, 1, 2, math.MinInt}, api.ErrArg},
	} {
		for _, o := range []api.Order{{Prec: c.ranks, Weights: []int{1, 1, 1, 1}, Var: 1}, {Prec: c.ranks, Lpo: true}} {
			if e := prec.Check(table(), o); e != c.e {
				t.Error(o, e)
			}
		}
	}
}

// TestWeightsThatMayNotBe: a 1, f 2, g 3, h 4 and a predicate p 5 of one argument, q 6 of none.
func TestWeightsThatMayNotBe(t *testing.T) {
	sig := over(fun("a", 0), fun("f", 2), fun("g", 1), fun("h", 1), pred("p", 1), pred("q", 0))
	gHigh, pHigh, fHigh := []int{0, 1, 2, 9, 3, 4, 5}, []int{0, 1, 2, 3, 4, 9, 5}, []int{0, 1, 9, 3, 4, 5, 6}
	for _, c := range []struct {
		ranks, weights []int
		v              int
		e              api.Errno
	}{
		{gHigh, []int{1, 1, 1, 1, 1, 1, 1}, 1, api.OK},
		{gHigh, []int{1, 1, 0, 0, 1, 1, 1}, 1, api.OK},
		{gHigh, []int{1, 1000, 1000, 1000, 1000, 1000, 1000}, 1, api.OK},
		{gHigh, []int{1000, 1000, 0, 0, 1, 1, 1000}, 1000, api.OK},
		{pHigh, []int{5, 5, 0, 1, 1, 0, 5}, 5, api.OK},
		{fHigh, []int{5, 6, 0, 1, 1, 1, 7}, 5, api.OK},

		{gHigh, []int{1, 1, 1, 1, 0, 1, 1}, 1, api.ErrArg},
		{gHigh, []int{1, 1, 1, 1, 1, 0, 1}, 1, api.ErrArg},
		{gHigh, []int{1, 1, 1, 0, 0, 1, 1}, 1, api.ErrArg},
		{pHigh, []int{1, 1, 1, 0, 1, 0, 1}, 1, api.ErrArg},
		{fHigh, []int{1, 1, 1, 0, 1, 1, 1}, 1, api.ErrArg},
		{fHigh, []int{1, 1, 0, 1, 0, 1, 1}, 1, api.ErrArg},

		{gHigh, []int{1, 1, -1, 1, 1, 1, 1}, 1, api.ErrArg},
		{gHigh, []int{1, 1, 1, -1, 1, 1, 1}, 1, api.ErrArg},
		{gHigh, []int{1, 1, 1, 1, 1, 1, math.MinInt}, 1, api.ErrArg},
		{gHigh, []int{1, 1001, 1, 1, 1, 1, 1}, 1, api.ErrArg},
		{gHigh, []int{1, 1, 1001, 1, 1, 1, 1}, 1, api.ErrArg},
		{gHigh, []int{1, 1, 1, 1001, 1, 1, 1}, 1, api.ErrArg},
		{gHigh, []int{1, 1, 1, 1, 1, 1, math.MaxInt}, 1, api.ErrArg},

		{gHigh, []int{0, 1, 1, 1, 1, 1, 1}, 0, api.ErrArg},
		{gHigh, []int{-1, 1, 1, 1, 1, 1, 1}, -1, api.ErrArg},
		{gHigh, []int{1001, 1001, 1, 1, 1, 1, 1001}, 1001, api.ErrArg},
		{gHigh, []int{1001, 1000, 1, 1, 1, 1, 1000}, 1001, api.ErrArg},
		{gHigh, []int{1, 1, 1, 1, 1, 1, 1}, 2, api.ErrArg},
		{gHigh, []int{2, 2, 1, 1, 1, 1, 2}, 1, api.ErrArg},
		{gHigh, []int{3, 2, 1, 1, 1, 1, 3}, 3, api.ErrArg},
		{gHigh, []int{3, 3, 1, 1, 1, 1, 2}, 3, api.ErrArg},
		{gHigh, []int{1, 0, 1, 1, 1, 1, 1}, 1, api.ErrArg},

		{gHigh, nil, 1, api.ErrArg},
		{gHigh, []int{}, 1, api.ErrArg},
		{gHigh, []int{1, 1, 1, 1, 1, 1}, 1, api.ErrArg},
		{gHigh, []int{1, 1, 1, 1, 1, 1, 1, 1}, 1, api.ErrArg},
	} {
		o := api.Order{Prec: c.ranks, Weights: c.weights, Var: c.v}
		if e := prec.Check(sig, o); e != c.e {
			t.Error(o, e)
		}
		o.Lpo = true
		if e := prec.Check(sig, o); e != api.OK {
			t.Error("an LPO's weights are not looked at:", o, e)
		}
	}
}

// wrongTerms may not be over the signature a 1, f 2, g 3, p 4 (of one argument).
func wrongTerms() []api.Term {
	deep, wide := of(1), of(1)
	for range 30 {
		deep = of(3, deep)
	}
	for range 8 {
		wide = of(2, wide, wide)
	}
	far := of(1)
	for range 100000 {
		far = of(3, far)
	}
	return []api.Term{
		of(5), of(math.MaxInt), x(48), x(math.MaxInt), of(math.MinInt), of(1, of(1)), of(2, of(1)), of(2), of(2, of(1), of(1), of(1)),
		of(3, of(4, of(1))), of(3, of(0)), of(4, of(0)), of(4, of(4, x(0))), of(4), {Fun: -1, Args: []api.Term{of(1)}}, of(3, x(0), x(0)),
		of(2, of(1), of(2, of(1), of(3))), of(0, of(1)), of(0, x(0)), of(3, x(48)), deep, wide, far, of(3, slices.Repeat([]api.Term{x(0)}, 100000)...),
	}
}

// TestTermsThatMayNotBe: on either side, in the first and in the last clause, behind literals that may be.
func TestTermsThatMayNotBe(t *testing.T) {
	sig := over(fun("a", 0), fun("f", 2), fun("g", 1), pred("p", 1))
	good := lits(atom(of(4, of(1))), no(eq(of(1), of(3, x(0)))))
	for _, bad := range wrongTerms() {
		for _, l := range []api.Lit{atom(bad), no(atom(bad)), eq(bad, of(1)), eq(of(1), bad), eq(bad, bad), no(eq(x(0), bad))} {
			for _, c := range [][]api.Clause{clauses(lits(l)), clauses(good, good, slices.Concat(good, lits(l))), clauses(slices.Concat(lits(l), good), good)} {
				if n, e := prec.Counts(sig, c); n != nil || e != api.ErrArg {
					t.Error("Counts", n, e)
				}
				notMade(t, sig, c, api.OrderWay{})
				notMade(t, sig, c, api.OrderWay{Lpo: true, Prec: api.PrecSeldom, Weight: api.WeightOften, Top: true})
			}
		}
	}
	refused(t, sig, clauses(good, lits(atom(of(5)))))
	if n, e := prec.Counts(sig, clauses(good)); e != api.OK || !slices.Equal(n, []int{0, 2, 0, 1, 1}) {
		t.Error(n, e)
	}
}

// TestClausesOfTermsThatMayBe: P7.2 asks of a clause that its terms may be, and names nothing else: so these are counted, though no clause may be so.
func TestClausesOfTermsThatMayBe(t *testing.T) {
	sig := over(fun("a", 0), fun("g", 1), pred("p", 1), pred("q", 0))
	a, g, p, q := of(1), of(2, x(0)), of(3, of(1)), of(4)
	for _, c := range []struct {
		c api.Clause
		n []int
	}{
		{slices.Repeat(lits(atom(p)), api.MaxLits), []int{0, 16, 0, 16, 0}},
		{slices.Repeat(lits(atom(p)), api.MaxLits+1), []int{0, 17, 0, 17, 0}},
		{slices.Repeat(lits(no(eq(g, a))), 1000), []int{0, 1000, 1000, 0, 0}},
		{lits(atom(api.Term{})), []int{1, 0, 0, 0, 0}},
		{lits(no(atom(api.Term{})), atom(api.Term{Args: []api.Term{}})), []int{2, 0, 0, 0, 0}},
		{lits(eq(of(0), a)), []int{1, 1, 0, 0, 0}},
		{lits(eq(of(0), p), no(eq(of(0), q))), []int{2, 1, 0, 1, 1}},
		{lits(atom(a), no(atom(g)), atom(x(3))), []int{0, 1, 1, 0, 0}},
		{lits(eq(p, q)), []int{0, 1, 0, 1, 1}},
		{lits(eq(p, a), no(eq(g, q))), []int{0, 2, 1, 1, 1}},
	} {
		if n, e := prec.Counts(sig, clauses(c.c)); e != api.OK || !slices.Equal(n, c.n) {
			t.Error(c.c, n, e)
		}
		for _, way := range ways() {
			if o := made(t, sig, clauses(c.c), way); o.Prec[0] != 0 || !way.Lpo && o.Weights[0] != 1 {
				t.Error(tell(way), c.c, o)
			}
		}
	}
}

func TestWaysThatAreNone(t *testing.T) {
	l := clauses(lits(eq(of(3, of(1)), of(1))))
	for _, n := range []int{math.MinInt, -2, -1, 4, 5, 6, 100, math.MaxInt} {
		for k := range 4 {
			way := api.OrderWay{Top: k%2 == 1, Lpo: k/2 == 1}
			if n != 4 {
				way.Prec = api.PrecBy(n)
				notMade(t, table(), l, way)
				notMade(t, table(), nil, way)
			}
			way.Weight = api.WeightBy(n)
			notMade(t, table(), l, way)
			way.Prec = 0
			notMade(t, table(), l, way)
			notMade(t, over(), nil, way)
		}
	}
	made(t, table(), l, api.OrderWay{Prec: 4, Weight: 3})
}

// spoil writes into all of a list, spare room included.
func spoil(l []int) {
	l = l[:cap(l)]
	for i := range l {
		l[i] = -99
	}
}

// TestAnswersAreTheCallersOwn: what he writes into one changes no other one, and no later one.
func TestAnswersAreTheCallersOwn(t *testing.T) {
	l := clauses(lits(eq(of(3, of(1)), of(1))))
	for _, way := range ways() {
		want := naiveMake(table(), l, way)
		kept := made(t, table(), l, way)
		o := made(t, table(), l, way)
		spoil(o.Prec)
		if !slices.Equal(o.Weights, want.Weights) {
			t.Error(tell(way), "Prec and Weights share", o)
		}
		spoil(o.Weights)
		if again := made(t, table(), l, way); !same(again, want) || !same(kept, want) {
			t.Error(tell(way), again, kept)
		}
	}
	n, _ := prec.Counts(table(), l)
	m, _ := prec.Counts(table(), l)
	spoil(n)
	if again, _ := prec.Counts(table(), l); !slices.Equal(again, []int{0, 2, 0, 1}) || !slices.Equal(m, again) {
		t.Error(again, m)
	}
}

// roomy lays a list with spare room behind it.
func roomy[E any](l, behind []E) []E {
	out := make([]E, 0, len(l)+len(behind))
	out = append(append(out, l...), behind...)
	return out[:len(l)]
}

// TestNothingIsChanged: neither what is handed in nor the spare room behind it; nor is what stands in spare room looked at.
func TestNothingIsChanged(t *testing.T) {
	args := roomy([]api.Term{of(1)}, []api.Term{of(9), of(8)})
	c := roomy(lits(eq(api.Term{Fun: 3, Args: args}, of(1))), lits(atom(of(7))))
	l := roomy(clauses(c), clauses(lits(atom(of(6)))))
	sig := api.Sig{Syms: roomy(table().Syms, []api.Sym{fun("", -1), truth})}
	for _, way := range ways() {
		if o := made(t, sig, l, way); !same(o, naiveMake(table(), clauses(lits(eq(of(3, of(1)), of(1)))), way)) {
			t.Error(tell(way), o)
		}
	}
	if n, e := prec.Counts(sig, l); e != api.OK || !slices.Equal(n, []int{0, 2, 0, 1}) {
		t.Error(n, e)
	}
	o := api.Order{Prec: roomy([]int{0, 5, 3, 4}, []int{-3, 5}), Weights: roomy([]int{1, 2, 3, 4}, []int{-7}), Var: 1}
	if e := prec.Check(sig, o); e != api.OK || !prec.Higher(o, 1, 3) || prec.Higher(o, 5, 4) {
		t.Error(e)
	}
	if !slices.Equal(o.Prec[:6], []int{0, 5, 3, 4, -3, 5}) || !slices.Equal(o.Weights[:5], []int{1, 2, 3, 4, -7}) {
		t.Error("the order is changed:", o)
	}
	if !slices.Equal(sig.Syms[:6], append(table().Syms, fun("", -1), truth)) {
		t.Error("the signature is changed:", sig)
	}
	if args[:3][1].Fun != 9 || args[:3][2].Fun != 8 || args[0].Fun != 1 || c[:2][1].L.Fun != 7 || c[0].L.Fun != 3 || c[0].R.Fun != 1 || len(l[:2][1]) != 1 || l[:2][1][0].L.Fun != 6 {
		t.Error("the clauses are changed")
	}
}

// TestNothingIsKept: what the caller does to his own later on, and calls that are refused, change no answer.
func TestNothingIsKept(t *testing.T) {
	sig, l := table(), clauses(lits(eq(of(3, of(1)), of(1))))
	way := api.OrderWay{Prec: api.PrecOften, Weight: api.WeightOften}
	o := made(t, sig, l, way)
	sig.Syms[3] = fun("h", 0)
	l[0][0].L.Args[0] = of(99)
	l[0][0].R = of(2)
	notMade(t, sig, l, way)
	if !same(o, api.Order{Prec: []int{0, 3, 1, 2}, Weights: []int{1, 3, 1, 2}, Var: 1}) {
		t.Error(o)
	}
	wants(t, table(), clauses(lits(eq(of(3, of(1)), of(1)))), way, []int{0, 3, 1, 2}, []int{1, 3, 1, 2})
}

// TestLargestTerms: of the greatest size and the greatest depth, and one past either.
func TestLargestTerms(t *testing.T) {
	sig := over(fun("a", 0), fun("f", 2), fun("g", 1))
	full := func(depth int) api.Term { // of a size of 2 to the power of depth, less 1
		t := of(1)
		for range depth - 1 {
			t = of(2, t, t)
		}
		return t
	}
	large := of(2, full(8), of(2, full(5), of(3, of(3, of(3, of(3, of(3, full(3))))))))
	n, e := prec.Counts(sig, clauses(lits(eq(large, x(0)))))
	if e != api.OK || n[1]+n[2]+n[3] != api.MaxSize {
		t.Error(n, e)
	}
	refused(t, sig, clauses(lits(eq(x(0), of(3, large)))))
	deep := of(1)
	for range api.MaxDepth - 1 {
		deep = of(3, deep)
	}
	if n, e := prec.Counts(sig, clauses(lits(eq(deep, deep)))); e != api.OK || !slices.Equal(n, []int{0, 2, 0, 58}) {
		t.Error(n, e)
	}
	refused(t, sig, clauses(lits(eq(deep, of(3, deep)))))
}
