package kbo_test

import (
	"math"
	"testing"

	"syllogism/api"
	"syllogism/kbo"
)

// deepInside lays a term far down, between others that may be.
func deepInside(t api.Term) []api.Term {
	return []api.Term{
		of(f, of(a), t), of(f, t, x(0)), nest(25, g, t), of(h, of(m, x(0), of(a), of(f, of(b), nest(3, h, t)))), of(m, of(a), t, of(b)),
	}
}

// unknown wants an order not to know a term, nor any that it stands in.
func unknown(t *testing.T, o api.Order, bad api.Term) {
	t.Helper()
	good := []api.Term{x(0), of(a), of(f, of(a), of(g, x(0))), of(0)}
	for _, s := range append(deepInside(bad), bad) {
		if n := kbo.Weight(o, s); n != 0 {
			t.Errorf("%v: %s weighs %d", o, show(s), n)
		}
		wants(t, o, stand{s, s, api.RelNone})
		for _, u := range good {
			wants(t, o, stand{s, u, api.RelNone})
		}
	}
}

// known wants it to know one.
func known(t *testing.T, o api.Order, s api.Term) {
	t.Helper()
	wants(t, o, stand{s, s, api.RelEqual})
}

func TestSymbolsThatAreNotKnown(t *testing.T) {
	o := weighing()
	for _, n := range []int{7, 8, 96, 1000, math.MaxInt32, math.MaxInt} {
		unknown(t, o, of(n))
		unknown(t, o, of(n, of(a)))
		unknown(t, o, of(n, x(0), x(1)))
	}
	known(t, o, of(6))
	unknown(t, o, of(a, of(7)))
	unknown(t, o, of(m, of(a), of(a), of(7)))
}

// TestRanksOrWeightsThatAreNotThere: a symbol needs both; numbers that are too many are nothing to it.
func TestRanksOrWeightsThatAreNotThere(t *testing.T) {
	o := weighing(m, 5)
	o.Prec = o.Prec[:6]
	unknown(t, o, of(m))
	unknown(t, o, of(m, of(a)))
	known(t, o, of(h, of(a)))
	o = weighing(m, 5)
	o.Weights = o.Weights[:6]
	unknown(t, o, of(m))
	unknown(t, o, of(m, of(a)))
	known(t, o, of(h, of(a)))
	o = weighing()
	o.Prec = append(o.Prec, 9, 8)
	o.Weights = append(o.Weights, 1)
	known(t, o, of(7))
	wants(t, o, stand{of(7), of(h, of(a)), api.RelLess}, stand{of(7), of(a), api.RelGreater}, stand{of(7), of(m), api.RelGreater})
	unknown(t, o, of(8))
}

// TestVariablesWithArguments: no order knows them, and they weigh nothing, wherever they stand.
func TestVariablesWithArguments(t *testing.T) {
	for _, o := range []api.Order{weighing(), weighing(g, 0), {Var: 3}, {}} {
		for _, s := range []api.Term{x(0, of(a)), x(1, x(1)), x(0, x(0), x(0)), x(47, of(f, of(a), of(b)))} {
			unknown(t, o, s)
		}
	}
	wants(t, weighing(), stand{api.Term{Fun: -1, Args: []api.Term{}}, x(0), api.RelEqual})
}

// TestOrdersThatMayNotBe are taken by the words, as they stand.
func TestOrdersThatMayNotBe(t *testing.T) {
	o := weighing(a, -3, b, -4, f, -1, g, math.MinInt)
	wants(t, o,
		stand{of(a), of(b), api.RelLess},
		stand{of(f, of(a), of(b)), of(g, of(b)), api.RelLess},
		stand{nest(3, g, of(a)), of(a), api.RelGreater},
		stand{of(h, of(a)), of(f, of(a), of(b)), api.RelGreater},
		stand{nest(3, g, x(0)), x(0), api.RelGreater})
	if n := kbo.Weight(o, of(f, of(a), of(g, of(h, x(0))))); n != 2 {
		t.Error(n)
	}
	for _, v := range []int{0, -1, math.MinInt} {
		o := weighing(g, 0, a, 0)
		o.Var = v
		if n := kbo.Weight(o, of(f, x(0), x(1))); n != 1 {
			t.Error(v, n)
		}
		if n := kbo.Weight(o, x(0)); n != 0 {
			t.Error(v, n)
		}
		wants(t, o,
			stand{x(0), of(a), api.RelNone},
			stand{x(0), of(b), api.RelNone},
			stand{of(g, x(0)), x(0), api.RelGreater},
			stand{of(g, of(a)), x(0), api.RelNone},
			stand{of(f, x(0), x(1)), x(0), api.RelGreater},
			stand{of(f, x(0), x(0)), of(f, x(0), of(a)), api.RelNone})
	}
	o = weighing()
	o.Prec = []int{0, 4, 4, 3, 5, 5, 5}
	wants(t, o,
		stand{of(a), of(b), api.RelNone},
		stand{of(a), of(a), api.RelEqual},
		stand{of(g, of(b)), of(h, of(b)), api.RelNone},
		stand{of(f, of(a), of(a)), of(f, of(b), of(a)), api.RelNone},
		stand{of(f, of(a), of(h, of(b))), of(f, of(b), of(a)), api.RelGreater},
		stand{of(f, of(g, of(a)), of(a)), of(f, of(b), of(h, of(a))), api.RelGreater})
	o.Prec = []int{math.MinInt, math.MaxInt, 0, -1, math.MinInt, math.MinInt + 1, 2}
	wants(t, o,
		stand{of(a), of(b), api.RelGreater},
		stand{of(g, of(b)), of(h, of(b)), api.RelLess},
		stand{of(g), of(0), api.RelNone})
}

// TestLpo: it is read as a KBO, by what weights it has.
func TestLpo(t *testing.T) {
	o := weighing(a, 3, h, 0)
	o.Lpo = true
	wants(t, o,
		stand{of(a), of(g, of(b)), api.RelGreater},
		stand{of(h, of(b)), of(b), api.RelGreater},
		stand{x(0), x(0), api.RelEqual})
	if n := kbo.Weight(o, of(f, of(a), x(0))); n != 5 {
		t.Error(n)
	}
	o.Weights, o.Var = nil, 0
	unknown(t, o, of(a))
	unknown(t, o, of(0))
	wants(t, o, stand{x(0), x(0), api.RelEqual}, stand{x(0), x(1), api.RelNone})
}

// TestZeroOrder knows variables alone.
func TestZeroOrder(t *testing.T) {
	for _, o := range []api.Order{{}, {Prec: []int{}, Weights: []int{}}, {Var: -1}, {Var: 7}, {Prec: []int{0, 1, 2}, Var: 7}, {Weights: []int{1, 1, 1}, Var: 7}} {
		for n := range 9 {
			unknown(t, o, of(n))
			unknown(t, o, of(n, of(n)))
		}
		wants(t, o, stand{x(0), x(0), api.RelEqual}, stand{x(0), x(1), api.RelNone})
		if n := kbo.Weight(o, x(3)); n != max(0, o.Var) {
			t.Error(o, n)
		}
	}
}

// TestFarVariables: their numbers may be any.
func TestFarVariables(t *testing.T) {
	for _, n := range []int{-49, -1000, math.MinInt32, math.MinInt + 1, math.MinInt} {
		far := of(n)
		if w := kbo.Weight(weighing(g, 2), of(g, far)); w != 3 {
			t.Error(n, w)
		}
		wants(t, weighing(),
			stand{far, far, api.RelEqual},
			stand{far, x(0), api.RelNone},
			stand{of(g, far), far, api.RelGreater},
			stand{of(g, far), x(0), api.RelNone},
			stand{of(f, far, x(0)), far, api.RelGreater},
			stand{of(f, far, x(0)), of(f, x(0), far), api.RelNone})
		unknown(t, weighing(), of(n, of(a)))
	}
}

// roomy lays a list with spare room behind it.
func roomy[E any](l, behind []E) []E {
	out := append(make([]E, 0, len(l)+len(behind)), l...)
	copy(out[:cap(out)][len(l):], behind)
	return out
}

// TestSpareRoom: what stands behind a list is neither looked at nor changed.
func TestSpareRoom(t *testing.T) {
	whole := []int{0, 1, 2, 3, 4, 5, 6, -7, 99}
	o := api.Order{Prec: roomy(whole[:7], whole[7:]), Weights: roomy([]int{1, 1, 1, 1, 1, 1, 1}, []int{5, 6}), Var: 1}
	s := api.Term{Fun: m, Args: roomy([]api.Term{of(a), x(0)}, []api.Term{of(9), x(1)})}
	u := api.Term{Fun: m, Args: roomy([]api.Term{of(a), x(0)}, []api.Term{x(0), of(9)})}
	wants(t, o, stand{s, u, api.RelEqual}, stand{of(g, s), u, api.RelGreater})
	unknown(t, o, of(7))
	unknown(t, o, of(8))
	if n := kbo.Weight(o, s); n != 3 {
		t.Error(n)
	}
	for i, n := range o.Prec[:cap(o.Prec)] {
		if n != whole[i] {
			t.Error(o.Prec[:9])
		}
	}
	if o.Weights[:9][7] != 5 || o.Weights[:9][8] != 6 || !same(of(m, of(a), x(0), of(9), x(1)), of(m, s.Args[:4]...)) || !same(of(m, of(a), x(0), x(0), of(9)), of(m, u.Args[:4]...)) {
		t.Error("changed:", o.Weights[:9], s.Args[:4], u.Args[:4])
	}
}
