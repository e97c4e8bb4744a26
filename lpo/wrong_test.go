package lpo_test

import (
	"math"
	"slices"
	"testing"

	"syllogism/api"
)

// deepInside lays a term far down, between others that may be.
func deepInside(t api.Term) []api.Term {
	return []api.Term{
		of(f, of(a), t), of(f, t, x(0)), nest(25, g, t), of(h, of(m, x(0), of(a), of(f, of(b), nest(3, h, t)))), of(m, of(a), t, of(b)),
	}
}

// unknown wants an order not to know a term, nor any that it stands in, against itself and others, on either side.
func unknown(t *testing.T, o api.Order, bad api.Term) {
	t.Helper()
	others := []api.Term{x(0), of(a), of(f, of(a), of(g, x(0))), of(0), nest(28, h, x(0)), bad}
	for _, s := range append(deepInside(bad), bad) {
		wants(t, o, stand{s, s, api.RelNone})
		for _, u := range others {
			wants(t, o, stand{s, u, api.RelNone})
		}
	}
}

// known wants it to know one.
func known(t *testing.T, o api.Order, s api.Term) {
	t.Helper()
	wants(t, o, stand{s, s, api.RelEqual})
}

func TestSymbolsThatAreNotKnown(t *testing.T) {
	o := byNumber()
	for _, n := range []int{7, 8, 96, 1000, math.MaxInt32, math.MaxInt} {
		unknown(t, o, of(n))
		unknown(t, o, of(n, of(a)))
		unknown(t, o, of(n, x(0), x(1)))
	}
	known(t, o, of(6))
	unknown(t, o, of(a, of(7)))
	unknown(t, o, of(m, of(a), of(a), of(7)))
}

// TestPrecOfAnotherLength: what has a rank there is known, be there too few ranks or too many.
func TestPrecOfAnotherLength(t *testing.T) {
	o := byNumber()
	o.Prec = o.Prec[:6]
	unknown(t, o, of(m))
	unknown(t, o, of(m, of(a)))
	known(t, o, of(h, of(a)))
	wants(t, o, stand{of(h, x(0)), of(g, x(0)), api.RelGreater})
	o = byNumber()
	o.Prec = append(o.Prec, 9, -8)
	wants(t, o,
		stand{of(7), of(m, of(b)), api.RelGreater},
		stand{of(8), of(0), api.RelLess},
		stand{of(7, x(0)), of(8, x(0)), api.RelGreater},
		stand{of(8, of(7)), of(m), api.RelGreater})
	unknown(t, o, of(9))
}

// TestVariablesWithArguments: no order knows them, wherever they stand.
func TestVariablesWithArguments(t *testing.T) {
	for _, o := range []api.Order{byNumber(), {Lpo: true}, {}} {
		for _, s := range []api.Term{x(0, of(a)), x(1, x(1)), x(0, x(0), x(0)), x(47, of(f, of(a), of(b)))} {
			unknown(t, o, s)
		}
	}
	wants(t, byNumber(),
		stand{api.Term{Fun: -1, Args: []api.Term{}}, x(0), api.RelEqual},
		stand{api.Term{Fun: a, Args: []api.Term{}}, of(a), api.RelEqual},
		stand{of(g, api.Term{Fun: -1, Args: []api.Term{}}), of(f, x(0)), api.RelGreater})
}

// TestOneRankTwice: of tops that rank the same neither is above by its rank, nor by its arguments one by one.
func TestOneRankTwice(t *testing.T) {
	o := byNumber()
	o.Prec = []int{0, 4, 4, 3, 5, 5, 5}
	wants(t, o,
		stand{of(a), of(b), api.RelNone},
		stand{of(a), of(a), api.RelEqual},
		stand{of(a), of(f, of(b), of(b)), api.RelNone},
		stand{of(a), of(f, of(a), of(a)), api.RelLess},
		stand{of(g, of(b)), of(h, of(b)), api.RelNone},
		stand{of(g, of(b)), of(h, of(0)), api.RelNone},
		stand{of(g, of(h, of(b))), of(h, of(b)), api.RelGreater},
		stand{of(g, of(h, of(g, of(0)))), of(h, of(0)), api.RelGreater},
		stand{of(g, of(b)), of(f, of(b), of(a)), api.RelGreater},
		stand{of(f, of(a), of(a)), of(f, of(b), of(a)), api.RelNone},
		stand{of(f, of(a), of(f, of(b), of(b))), of(f, of(b), of(b)), api.RelGreater},
		stand{of(g, of(a), of(b)), of(g, of(b), of(a)), api.RelNone},
		stand{of(g, of(a), of(b)), of(g, of(a), of(f, of(b), of(b))), api.RelLess})
	o.Prec = []int{0, 0, 0, 0, 0, 0, 0}
	wants(t, o,
		stand{of(0), of(a), api.RelNone},
		stand{of(f, of(a), of(b)), of(g, of(a)), api.RelNone},
		stand{of(f, of(a), of(g, of(a))), of(g, of(a)), api.RelGreater},
		stand{of(f, of(g, of(a)), of(a)), of(f, of(a), of(a)), api.RelGreater})
}

// TestTruthNotLeast: where $true ranks higher than others, it is above them, by the words.
func TestTruthNotLeast(t *testing.T) {
	o := byNumber()
	o.Prec = []int{4, 1, 2, 3, 5, 6, 7}
	wants(t, o,
		stand{of(0), of(f, of(a), of(b)), api.RelGreater},
		stand{of(0), of(f, of(a), of(g, of(b))), api.RelLess},
		stand{of(0), of(f, of(a), x(0)), api.RelNone},
		stand{of(0), x(0), api.RelNone},
		stand{of(0, of(a)), of(0), api.RelGreater})
}

// TestFarRanks: any numbers are ranks.
func TestFarRanks(t *testing.T) {
	o := byNumber()
	o.Prec = []int{math.MinInt, math.MaxInt, 0, -1, math.MinInt, math.MinInt + 1, 2}
	wants(t, o,
		stand{of(a), of(b), api.RelGreater},
		stand{of(g, of(b)), of(h, of(b)), api.RelLess},
		stand{of(a), of(m, of(f, of(b), of(h, of(0)))), api.RelGreater},
		stand{of(g), of(0), api.RelNone},
		stand{of(g, of(0)), of(0), api.RelGreater})
}

// TestRanksAlone: neither weights nor what else an order says are looked at.
func TestRanksAlone(t *testing.T) {
	ranks := byNumber().Prec
	for _, o := range []api.Order{
		{Prec: ranks}, {Lpo: true, Prec: ranks}, {Lpo: true, Prec: ranks, Weights: []int{1, 2}, Var: -7},
		{Prec: ranks, Weights: []int{1, 1, 1, 1, 1, 1, 1}, Var: 1}, {Prec: ranks, Weights: []int{0, 1000, 1, 1000, 0, -5, math.MaxInt}, Var: math.MinInt},
	} {
		wants(t, o,
			stand{of(g, x(0)), of(f, x(0), x(0)), api.RelGreater},
			stand{of(b), of(a), api.RelGreater},
			stand{of(g, of(a)), nest(9, f, of(b)), api.RelGreater},
			stand{x(0), x(0), api.RelEqual},
			stand{of(f, x(0), x(1)), of(f, x(1), x(0)), api.RelNone})
		unknown(t, o, of(7))
	}
}

// TestZeroOrder knows variables alone.
func TestZeroOrder(t *testing.T) {
	for _, o := range []api.Order{{}, {Lpo: true}, {Prec: []int{}, Weights: []int{}}, {Var: -1}, {Weights: []int{1, 1, 1}, Var: 7}} {
		for n := range 9 {
			unknown(t, o, of(n))
			unknown(t, o, of(n, of(n)))
		}
		wants(t, o, stand{x(0), x(0), api.RelEqual}, stand{x(0), x(1), api.RelNone})
	}
}

// TestFarVariables: their numbers may be any.
func TestFarVariables(t *testing.T) {
	for _, n := range []int{-49, -1000, math.MinInt32, math.MinInt + 1, math.MinInt} {
		far := of(n)
		wants(t, byNumber(),
			stand{far, far, api.RelEqual},
			stand{far, x(0), api.RelNone},
			stand{far, of(a), api.RelNone},
			stand{of(g, far), far, api.RelGreater},
			stand{of(g, far), x(0), api.RelNone},
			stand{of(g, far), of(f, far, of(f, far, of(b))), api.RelGreater},
			stand{of(g, far), of(f, far, x(0)), api.RelNone},
			stand{of(f, far, x(0)), of(f, x(0), far), api.RelNone})
		unknown(t, byNumber(), of(n, of(a)))
	}
}

// roomy lays a list with spare room behind it.
func roomy[E any](l, behind []E) []E {
	out := append(make([]E, 0, len(l)+len(behind)), l...)
	copy(out[:cap(out)][len(l):], behind)
	return out
}

// TestSpareRoom: what stands behind a list is neither looked at nor changed; nor is what was handed in.
func TestSpareRoom(t *testing.T) {
	whole := []int{0, 1, 2, 3, 4, 5, 6, -7, 99}
	o := api.Order{Lpo: true, Prec: roomy(whole[:7], whole[7:])}
	s := api.Term{Fun: m, Args: roomy([]api.Term{of(a), x(0)}, []api.Term{of(9), x(1)})}
	u := api.Term{Fun: m, Args: roomy([]api.Term{of(a), x(0)}, []api.Term{x(0), of(9)})}
	wants(t, o, stand{s, u, api.RelEqual}, stand{of(g, s), u, api.RelGreater}, stand{s, of(m, of(b), x(0)), api.RelLess})
	unknown(t, o, of(7))
	unknown(t, o, of(8))
	if !slices.Equal(o.Prec[:9], whole) || !same(of(m, of(a), x(0), of(9), x(1)), of(m, s.Args[:4]...)) || !same(of(m, of(a), x(0), x(0), of(9)), of(m, u.Args[:4]...)) {
		t.Error("changed:", o.Prec[:9], s.Args[:4], u.Args[:4])
	}
}

// TestSameAgain: what was asked before makes no difference.
func TestSameAgain(t *testing.T) {
	o, s, u := byNumber(), of(g, of(f, x(0), of(a))), of(f, of(f, x(0), of(b)), of(a))
	for range 3 {
		wants(t, o, stand{s, u, api.RelGreater}, stand{u, s, api.RelLess})
		unknown(t, o, of(7))
		o.Prec = []int{0, 1, 2, 4, 3, 5, 6}
		wants(t, o, stand{s, u, api.RelLess})
		o = byNumber()
	}
}
