package kbo_test

import (
	"fmt"
	"math"
	"testing"

	"syllogism/api"
	"syllogism/kbo"
)

// The symbols of the chapter's examples; h, of one argument, ranks above all, m, of as many arguments as are wanted, above it.
const (
	a = 1 + iota
	b
	f
	g
	h
	m
)

const most = math.MaxInt32

func of(n int, args ...api.Term) api.Term { return api.Term{Fun: n, Args: args} }
func x(k int, args ...api.Term) api.Term  { return api.Term{Fun: -1 - k, Args: args} }

// nest is one symbol so many times around a term.
func nest(n, symbol int, t api.Term) api.Term {
	for range n {
		t = of(symbol, t)
	}
	return t
}

// show tells a term, and of a large one how it begins.
func show(t api.Term) string { return fmt.Sprintf("%.200s", fmt.Sprint(t)) }

// many is m around so many of a term.
func many(n int, t api.Term) api.Term {
	args := make([]api.Term, n)
	for i := range args {
		args[i] = t
	}
	return of(m, args...)
}

// weighing ranks by number, and weighs 1 each, but those that are named: a symbol, its weight, and so on.
func weighing(pairs ...int) api.Order {
	o := api.Order{Prec: []int{0, 1, 2, 3, 4, 5, 6}, Weights: []int{1, 1, 1, 1, 1, 1, 1}, Var: 1}
	for i := 0; i < len(pairs); i += 2 {
		o.Weights[pairs[i]] = pairs[i+1]
	}
	return o
}

// stand is what is to be of two terms.
type stand struct {
	s, t api.Term
	want api.Rel
}

// round is a relation the other way round.
func round(r api.Rel) api.Rel {
	switch r {
	case api.RelLess:
		return api.RelGreater
	case api.RelGreater:
		return api.RelLess
	}
	return r
}

// wants holds Cmp and Above, and both the other way round, against what is to be.
func wants(t *testing.T, o api.Order, l ...stand) {
	t.Helper()
	for _, c := range l {
		for _, c := range []stand{c, {c.t, c.s, round(c.want)}} {
			if got := kbo.Cmp(o, c.s, c.t); got != c.want {
				t.Errorf("%v: %s and %s: %v, not %v", o, show(c.s), show(c.t), got, c.want)
			}
			if got := kbo.Above(o, c.s, c.t); got != (c.want == api.RelGreater) {
				t.Errorf("%v: %s above %s: %v", o, show(c.s), show(c.t), got)
			}
		}
	}
}

func TestExamples(t *testing.T) {
	wants(t, weighing(),
		stand{of(f, x(0), of(a)), of(g, x(0)), api.RelGreater},
		stand{of(g, x(0)), x(0), api.RelGreater},
		stand{of(g, of(a)), of(f, x(0), x(0)), api.RelLess},
		stand{of(g, x(0)), of(f, of(a), of(b)), api.RelNone},
		stand{of(f, of(a), of(b)), of(f, of(b), of(a)), api.RelLess},
		stand{of(f, x(0), x(1)), of(f, x(1), x(0)), api.RelNone})
	wants(t, weighing(g, 0),
		stand{nest(2, g, x(0)), x(0), api.RelGreater},
		stand{of(g, of(a)), of(b), api.RelGreater})
}

func TestWeight(t *testing.T) {
	o := weighing(0, 7, a, 3, f, 10, g, 0, h, 40)
	o.Var = 7
	for _, c := range []struct {
		t      api.Term
		weight int
	}{
		{x(0), 7}, {x(47), 7}, {of(0), 7}, {of(a), 3}, {of(b), 1},
		{of(g, of(a)), 3}, {nest(5, g, x(2)), 7}, {of(f, x(0), x(0)), 24}, {of(f, x(0), of(f, of(a), of(h, x(1)))), 77},
		{of(h, of(h, of(b))), 81}, {of(m), 1}, {of(m, of(a), of(b), of(m), x(3)), 13},
	} {
		if n := kbo.Weight(o, c.t); n != c.weight {
			t.Errorf("%s weighs %d, not %d", show(c.t), n, c.weight)
		}
	}
}

// TestRanks: of terms that weigh the same and have other tops, the ranks tell, not the numbers.
func TestRanks(t *testing.T) {
	l := []stand{
		{of(a), of(b), api.RelLess},
		{of(g, of(b)), of(h, of(a)), api.RelLess},
		{of(f, of(a), of(a)), nest(2, g, of(a)), api.RelLess},
		{of(h, x(0)), of(g, x(0)), api.RelGreater},
		{of(h, x(0)), of(g, x(1)), api.RelNone},
		{of(h, of(f, x(0), x(1))), of(f, x(1), of(g, x(0))), api.RelGreater},
	}
	wants(t, weighing(), l...)
	o := weighing()
	o.Prec = []int{-9, 60, 50, 40, 30, -1, 0}
	for i := range l {
		l[i].want = round(l[i].want)
	}
	wants(t, o, l...)
}

// TestFirstArgumentsThatDiffer: at the first, a middle and the last place; what stands behind it is no reason, but counts.
func TestFirstArgumentsThatDiffer(t *testing.T) {
	wants(t, weighing(),
		stand{of(m, of(b), of(a), of(a)), of(m, of(a), of(b), of(b)), api.RelGreater},
		stand{of(m, of(a), of(b), of(a)), of(m, of(a), of(a), of(b)), api.RelGreater},
		stand{of(m, of(a), of(a), of(b)), of(m, of(a), of(a), of(a)), api.RelGreater},
		stand{of(m, of(a), of(a), of(a)), of(m, of(a), of(a), of(a)), api.RelEqual},
		stand{of(m, x(0), of(b), x(1)), of(m, x(0), of(a), x(1)), api.RelGreater},
		stand{of(m, x(0), of(b), x(1)), of(m, x(0), of(a), x(0)), api.RelNone},
		stand{of(m, of(b), x(1), x(0)), of(m, of(a), x(0), x(1)), api.RelGreater},
		stand{of(m, x(0), x(1), of(b)), of(m, x(1), x(0), of(a)), api.RelNone},
		stand{of(m, of(g, x(0)), of(a)), of(m, x(0), of(g, of(b))), api.RelGreater},
		stand{of(m, of(g, of(a)), x(0)), of(m, x(0), of(g, of(a))), api.RelNone},
		stand{of(m, of(g, of(a)), x(0), x(1)), of(m, x(1), x(0), of(g, of(a))), api.RelNone},
		stand{of(g, of(f, of(a), of(b))), of(g, of(f, of(b), of(a))), api.RelLess},
		stand{of(f, of(f, of(b), of(a)), of(a)), of(f, of(f, of(a), of(b)), of(b)), api.RelGreater})
}

// TestHeavierFirst: ranks and arguments tell just of what weighs the same.
func TestHeavierFirst(t *testing.T) {
	wants(t, weighing(a, 5),
		stand{of(a), of(h, of(b)), api.RelGreater},
		stand{of(f, of(b), of(a)), of(f, of(b), of(b)), api.RelGreater},
		stand{of(f, of(b), of(a)), of(f, of(a), of(b)), api.RelLess},
		stand{of(f, of(g, of(b)), of(a)), of(f, of(a), of(b)), api.RelGreater},
		stand{of(m, of(b), of(b), of(a)), of(m, of(b), of(h, of(b)), of(b)), api.RelGreater},
		stand{of(m, of(h, of(b)), of(b), of(b)), of(m, of(b), of(a), of(b)), api.RelLess},
		stand{of(m, of(h, of(b)), x(0), of(b)), of(m, of(b), of(a), x(0)), api.RelLess},
		stand{of(m, of(h, of(b)), x(0), of(b)), of(m, of(b), of(a), of(b)), api.RelNone})
}

// TestVariables: how often one stands in either decides whether anything else does.
func TestVariables(t *testing.T) {
	wants(t, weighing(),
		stand{x(0), x(0), api.RelEqual},
		stand{x(0), x(1), api.RelNone},
		stand{x(47), x(46), api.RelNone},
		stand{x(0), of(a), api.RelNone},
		stand{x(0), of(0), api.RelNone},
		stand{of(f, x(0), x(0)), x(0), api.RelGreater},
		stand{of(f, x(0), x(0)), of(g, x(0)), api.RelGreater},
		stand{of(f, x(0), x(1)), of(g, x(0)), api.RelGreater},
		stand{of(f, x(0), x(1)), of(g, x(2)), api.RelNone},
		stand{of(f, of(a), of(f, of(a), of(a))), of(f, x(0), x(0)), api.RelNone},
		stand{of(f, x(0), of(f, of(a), of(a))), of(f, x(0), x(0)), api.RelNone},
		stand{of(f, x(0), of(f, of(a), x(0))), of(f, x(0), x(0)), api.RelGreater},
		stand{of(f, of(f, x(0), x(1)), x(0)), of(f, x(0), x(0)), api.RelGreater},
		stand{of(f, of(f, x(0), x(1)), x(0)), of(f, x(1), x(1)), api.RelNone},
		stand{of(f, of(f, x(0), x(1)), of(g, of(a))), of(f, x(1), x(2)), api.RelNone},
		stand{of(f, of(f, x(3), x(2)), of(f, x(1), x(0))), of(f, of(f, x(0), x(1)), of(f, x(2), x(3))), api.RelNone},
		stand{of(h, of(f, x(3), x(2))), of(g, of(f, x(2), x(3))), api.RelGreater})
}

// TestAroundAVariable: what weighs as much as the variable is above it just if it is one symbol, again and again, around it.
func TestAroundAVariable(t *testing.T) {
	o := weighing(g, 0, h, 0, m, 0, a, 2)
	for n := 1; n < 40; n++ {
		wants(t, o,
			stand{nest(n, g, x(0)), x(0), api.RelGreater},
			stand{nest(n, h, x(3)), x(3), api.RelGreater},
			stand{nest(n, m, x(3)), x(3), api.RelGreater},
			stand{nest(n, g, x(0)), x(1), api.RelNone},
			stand{nest(n, g, nest(1, h, x(0))), x(0), api.RelNone},
			stand{nest(1, h, nest(n, g, x(0))), x(0), api.RelNone},
			stand{nest(n, g, of(b)), x(0), api.RelNone},
			stand{nest(n, g, of(a)), x(0), api.RelNone},
			stand{nest(n, g, x(0)), nest(n-1, g, x(0)), api.RelGreater},
			stand{nest(n, g, x(0)), nest(1, h, x(0)), api.RelLess},
			stand{nest(n, g, x(0)), nest(n, g, x(1)), api.RelNone},
			stand{nest(n, g, of(h, x(0))), nest(n+1, g, x(0)), api.RelGreater})
	}
	wants(t, o, stand{of(m, x(0), of(m)), x(0), api.RelNone}, stand{of(m, of(m), x(0)), x(0), api.RelNone}, stand{of(m), x(0), api.RelLess})
	wants(t, weighing(0, 0), stand{nest(3, 0, x(0)), x(0), api.RelGreater}, stand{nest(3, 0, x(0)), x(1), api.RelNone})
	o.Var = 0
	wants(t, o,
		stand{of(m, x(0), x(0)), x(0), api.RelNone},
		stand{of(m, x(0), x(1)), x(1), api.RelNone},
		stand{of(m), x(0), api.RelNone},
		stand{of(g, of(m)), x(0), api.RelNone},
		stand{of(g, x(0)), x(0), api.RelGreater},
		stand{of(g, x(0)), of(m), api.RelNone},
		stand{of(m, x(0), x(0)), of(g, x(0)), api.RelGreater},
		stand{of(m, x(0), x(0)), of(g, x(1)), api.RelNone})
}

// TestNumbersOfArguments: of the same top, with others of them, all that both have being the same, the one with more is above, unless the weights or the variables tell otherwise.
func TestNumbersOfArguments(t *testing.T) {
	o := weighing(g, 0, a, 0)
	wants(t, o,
		stand{of(m, of(a)), of(m), api.RelGreater},
		stand{of(m, of(b)), of(m), api.RelGreater},
		stand{of(m, x(0), of(a)), of(m, x(0)), api.RelGreater},
		stand{of(m, x(0), x(0)), of(m, x(0)), api.RelGreater},
		stand{of(m, x(0), x(1)), of(m, x(0)), api.RelGreater},
		stand{of(m, of(b), of(a), of(a), of(a)), of(m, of(b), of(a)), api.RelGreater},
		stand{of(g), of(g, of(a)), api.RelLess},
		stand{of(m, of(a), of(a)), of(m, of(g, of(a))), api.RelLess},
		stand{of(m, of(a), of(g, of(b))), of(m, of(b)), api.RelLess})
	o.Var = 0
	wants(t, o,
		stand{of(m, x(0), x(0)), of(m, x(0)), api.RelGreater},
		stand{of(m, x(0), of(a)), of(m, x(0)), api.RelGreater},
		stand{of(m, x(0), x(0)), of(m, x(1)), api.RelNone},
		stand{of(m, of(a), of(a)), of(m, x(0)), api.RelNone})
}

// TestHeavySymbols: what is above 2^31 - 1 weighs that, of a few symbols and of many.
func TestHeavySymbols(t *testing.T) {
	half := most/2 + 1
	for _, c := range []struct {
		o api.Order
		t api.Term
		n int
	}{
		{weighing(a, most), of(a), most},
		{weighing(a, most-1), of(a), most - 1},
		{weighing(a, most+1), of(a), most},
		{weighing(a, math.MaxInt), of(a), most},
		{weighing(a, most-1), of(g, of(a)), most},
		{weighing(a, most), of(g, of(a)), most},
		{weighing(a, half, b, half-1), of(m, of(a), of(b)), most},
		{weighing(a, half, b, half-1, m, 0), of(m, of(a), of(b)), most},
		{weighing(a, half, b, half-2, m, 0), of(m, of(a), of(b)), most - 1},
		{weighing(a, half, m, 0), of(m, of(a), of(a)), most},
		{weighing(a, math.MaxInt, m, math.MaxInt), of(m, of(a), of(a)), most},
		{weighing(a, 1000, m, 0), many(2147483, of(a)), 2147483000},
		{weighing(a, 1000, m, 647), many(2147483, of(a)), most},
		{weighing(a, 1000, m, 646), many(2147483, of(a)), most - 1},
		{weighing(a, 1000, m, 0), many(2147484, of(a)), most},
		{weighing(a, math.MaxInt, m, math.MaxInt), many(100000, of(a)), most},
		{weighing(g, 40000, a, 0), nest(50000, g, of(a)), 2000000000},
		{weighing(g, 50000, a, 0), nest(50000, g, of(a)), most},
		{weighing(g, math.MaxInt), nest(50000, g, of(a)), most},
	} {
		if n := kbo.Weight(c.o, c.t); n != c.n {
			t.Errorf("%v: %d, not %d", c.o, n, c.n)
		}
	}
	o := weighing()
	for _, v := range []int{most - 1, most, most + 1, math.MaxInt} {
		o.Var = v
		if n := kbo.Weight(o, x(0)); n != min(v, most) {
			t.Error(v, n)
		}
		if n := kbo.Weight(o, of(f, x(0), x(1))); n != most {
			t.Error(v, n)
		}
	}
}

// TestBeyondTheBound: there all weigh the same, so ranks and arguments tell.
func TestBeyondTheBound(t *testing.T) {
	wants(t, weighing(a, most, b, math.MaxInt),
		stand{of(a), of(b), api.RelLess},
		stand{of(g, of(a)), of(b), api.RelGreater},
		stand{nest(9, g, of(a)), of(h, of(a)), api.RelLess},
		stand{of(f, of(a), of(a)), of(g, of(a)), api.RelLess},
		stand{of(f, of(b), of(h, of(b))), of(f, of(h, of(a)), of(a)), api.RelLess},
		stand{of(f, of(h, of(h, of(a))), of(f, of(b), of(b))), of(f, of(h, of(b)), of(a)), api.RelGreater},
		stand{of(m, of(a), of(a)), of(m, of(a)), api.RelGreater},
		stand{of(m, of(a), of(0), of(0)), of(m, of(a), of(g, of(0))), api.RelLess},
		stand{of(a), nest(1000, h, of(0)), api.RelGreater})
	wants(t, weighing(a, most-1, h, 0),
		stand{of(a), of(b), api.RelGreater},
		stand{of(g, of(a)), of(a), api.RelGreater},
		stand{of(g, of(a)), of(f, of(a), of(a)), api.RelGreater},
		stand{of(h, of(a)), of(f, of(a), of(a)), api.RelLess},
		stand{of(m, of(a), of(b)), of(m, of(a), of(0)), api.RelGreater},
		stand{of(m, of(0), of(a), of(b)), of(m, of(0), of(b), of(a)), api.RelGreater},
		stand{of(m, of(b), of(h, of(a))), of(m, of(b), of(g, of(0)), of(a)), api.RelGreater})
	o := weighing(g, 5, h, 7, f, 0)
	o.Var = most
	wants(t, o,
		stand{nest(3, g, x(0)), x(0), api.RelGreater},
		stand{nest(2, h, x(0)), of(g, x(0)), api.RelGreater},
		stand{of(g, of(h, x(0))), x(0), api.RelNone},
		stand{of(f, x(0), x(0)), x(0), api.RelNone},
		stand{of(f, x(0), x(1)), of(g, x(1)), api.RelNone},
		stand{of(h, of(f, x(0), x(1))), of(g, x(1)), api.RelGreater},
		stand{x(0), nest(1000, h, of(a)), api.RelGreater},
		stand{of(f, x(0), of(a)), nest(1000, h, of(a)), api.RelGreater})
	o = weighing(f, 4*most, m, 4*most)
	o.Var = math.MaxInt
	wants(t, o,
		stand{many(70000, x(0)), many(69999, x(0)), api.RelGreater},
		stand{many(70000, x(0)), of(f, x(0), x(0)), api.RelGreater},
		stand{many(70000, x(0)), of(f, x(0), x(1)), api.RelNone})
}

// TestTruth: $true is below all other ground terms, and to a variable it stands in no way.
func TestTruth(t *testing.T) {
	for _, o := range []api.Order{weighing(), weighing(g, 0, h, 3), weighing(h, 0)} {
		for _, s := range []api.Term{of(a), of(b), of(g, of(a)), of(h, of(a)), of(f, of(a), of(b)), nest(7, h, of(b)), of(m)} {
			wants(t, o, stand{of(0), s, api.RelLess})
		}
		wants(t, o,
			stand{of(0), of(0), api.RelEqual},
			stand{of(0), x(0), api.RelNone},
			stand{of(0), of(f, x(0), of(a)), api.RelLess},
			stand{of(f, of(0), of(0)), of(0), api.RelGreater})
	}
}

// TestDeepAndWide: terms that differ far down, or far behind, are gone over once.
func TestDeepAndWide(t *testing.T) {
	deep := func(s api.Term) api.Term {
		for range 10000 {
			s = of(g, of(f, of(h, s), x(1)))
		}
		return s
	}
	wants(t, weighing(h, 0),
		stand{deep(of(a)), deep(of(b)), api.RelLess},
		stand{deep(of(a)), deep(of(a)), api.RelEqual},
		stand{deep(of(h, of(a))), deep(of(b)), api.RelGreater},
		stand{deep(x(0)), deep(x(1)), api.RelNone},
		stand{deep(of(f, x(0), x(2))), deep(x(0)), api.RelGreater})
	wide := func(t api.Term) api.Term {
		s := many(100000, of(g, x(0)))
		s.Args[99999] = t
		return s
	}
	wants(t, weighing(h, 0),
		stand{wide(of(a)), wide(of(b)), api.RelLess},
		stand{wide(of(g, x(0))), wide(of(h, x(0))), api.RelGreater},
		stand{wide(x(0)), wide(of(b)), api.RelNone})
	turned := func(k int) api.Term {
		s := of(a)
		for i := range 10000 {
			s = of(f, x(i*k%10000), s)
		}
		return s
	}
	wants(t, weighing(), stand{turned(1), turned(3), api.RelNone}, stand{of(g, turned(1)), turned(3), api.RelGreater}, stand{turned(7), turned(7), api.RelEqual})
}
