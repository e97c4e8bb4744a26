package lpo_test

import (
	"fmt"
	"testing"

	"syllogism/api"
	"syllogism/lpo"
)

// The symbols of the chapter's examples; h ranks above them, m above all. Each is put around as many arguments as are wanted.
const (
	a = 1 + iota
	b
	f
	g
	h
	m
)

func of(n int, args ...api.Term) api.Term { return api.Term{Fun: n, Args: args} }
func x(k int, args ...api.Term) api.Term  { return api.Term{Fun: -1 - k, Args: args} }

// nest is one symbol so many times around a term.
func nest(n, symbol int, t api.Term) api.Term {
	for range n {
		t = of(symbol, t)
	}
	return t
}

// show tells a term, and of a large one how it begins.
func show(t api.Term) string { return fmt.Sprintf("%.200s", fmt.Sprint(t)) }

// byNumber ranks so.
func byNumber() api.Order { return api.Order{Lpo: true, Prec: []int{0, 1, 2, 3, 4, 5, 6}} }

// stand is what is to be of two terms.
type stand struct {
	s, t api.Term
	want api.Rel
}

// round is a relation the other way round.
func round(r api.Rel) api.Rel {
	switch r {
	case api.RelLess:
		return api.RelGreater
	case api.RelGreater:
		return api.RelLess
	}
	return r
}

// wants holds Cmp and Above, and both the other way round, against what is to be.
func wants(t *testing.T, o api.Order, l ...stand) {
	t.Helper()
	for _, c := range l {
		for _, c := range []stand{c, {c.t, c.s, round(c.want)}} {
			if got := lpo.Cmp(o, c.s, c.t); got != c.want {
				t.Errorf("%v: %s and %s: %v, not %v", o, show(c.s), show(c.t), got, c.want)
			}
			if got := lpo.Above(o, c.s, c.t); got != (c.want == api.RelGreater) {
				t.Errorf("%v: %s above %s: %v", o, show(c.s), show(c.t), got)
			}
		}
	}
}

// contexts lay both terms of a stand far down, where nothing else differs: they stand as before.
func contexts(c stand) []stand {
	l := []stand{c}
	for _, around := range []func(api.Term) api.Term{
		func(t api.Term) api.Term { return of(g, t) },
		func(t api.Term) api.Term { return of(m, x(7), t, of(b)) },
		func(t api.Term) api.Term { return of(f, of(a), of(h, of(f, t, of(m, x(8))))) },
		func(t api.Term) api.Term { return nest(20, h, of(f, t, x(9))) },
	} {
		l = append(l, stand{around(c.s), around(c.t), c.want})
	}
	return l
}

// everywhere wants it at the top and deep inside.
func everywhere(t *testing.T, l ...stand) {
	t.Helper()
	for _, c := range l {
		wants(t, byNumber(), contexts(c)...)
	}
}

func TestExamples(t *testing.T) {
	wants(t, byNumber(),
		stand{of(g, x(0)), of(f, x(0), x(0)), api.RelGreater},
		stand{of(f, x(0), of(a)), x(0), api.RelGreater},
		stand{of(f, x(0), x(1)), of(f, x(1), x(0)), api.RelNone},
		stand{of(g, of(a)), of(f, of(b), of(b)), api.RelGreater},
		stand{of(f, of(a), of(b)), of(f, of(b), of(a)), api.RelLess},
		stand{x(0), x(1), api.RelNone})
}

// TestVariables: a variable is below what it stands in, and to all else it stands in no way.
func TestVariables(t *testing.T) {
	everywhere(t,
		stand{x(0), x(0), api.RelEqual},
		stand{x(0), x(1), api.RelNone},
		stand{x(47), x(46), api.RelNone},
		stand{of(g, x(0)), x(0), api.RelGreater},
		stand{of(m, x(0), of(a), of(b)), x(0), api.RelGreater},
		stand{of(m, of(a), x(0), of(b)), x(0), api.RelGreater},
		stand{of(m, of(a), of(b), x(0)), x(0), api.RelGreater},
		stand{of(f, x(0), x(1)), x(0), api.RelGreater},
		stand{of(f, x(0), x(1)), x(1), api.RelGreater},
		stand{of(f, x(0), x(1)), x(2), api.RelNone},
		stand{of(f, of(a), of(g, of(h, of(f, x(1), x(0))))), x(0), api.RelGreater},
		stand{of(f, of(a), of(g, of(h, of(f, x(1), x(0))))), x(2), api.RelNone},
		stand{nest(27, f, x(3)), x(3), api.RelGreater},
		stand{nest(27, f, x(3)), x(4), api.RelNone},
		stand{of(a), x(0), api.RelNone},
		stand{of(0), x(0), api.RelNone},
		stand{of(m, of(a), of(b)), x(0), api.RelNone})
}

// TestArguments: where nothing else makes a term above another one that ranks higher, or is of the same top, one of its arguments does that is the other one or above it.
func TestArguments(t *testing.T) {
	for _, over := range []api.Term{of(h, of(a), x(0)), of(h, of(b), x(0)), of(m, of(a), x(0), of(a)), of(f, of(a), of(h, of(a), x(0)))} {
		everywhere(t,
			stand{of(f, over, of(a), of(a)), of(h, of(a), x(0)), api.RelGreater},
			stand{of(f, of(a), over, of(a)), of(h, of(a), x(0)), api.RelGreater},
			stand{of(f, of(a), of(a), over), of(h, of(a), x(0)), api.RelGreater},
			stand{of(g, over), of(h, of(a), x(0)), api.RelGreater},
			stand{of(f, of(a), of(g, of(f, over, x(2)))), of(h, of(a), x(0)), api.RelGreater},
			stand{nest(20, g, over), of(h, of(a), x(0)), api.RelGreater},
			stand{nest(20, g, over), of(m, of(h, of(a), x(2)), x(1)), api.RelNone})
	}
	u := of(f, of(b), of(a), x(0))
	for _, over := range []api.Term{u, of(f, of(b), of(b), x(0)), of(g, u), of(m, of(b), x(0)), of(f, of(a), u)} {
		everywhere(t,
			stand{of(f, of(a), over, x(1)), u, api.RelGreater},
			stand{of(f, of(a), x(1), over), u, api.RelGreater},
			stand{of(f, x(1), over), u, api.RelGreater},
			stand{of(f, of(b), x(1), over), u, api.RelGreater},
			stand{of(f, of(b), of(a), x(1), over), u, api.RelGreater})
	}
	everywhere(t,
		stand{of(f, of(g, x(0)), x(1)), of(h, of(a)), api.RelNone},
		stand{of(f, of(g, of(a)), of(g, of(b))), of(h, of(a)), api.RelLess},
		stand{of(f, of(h, x(0)), x(1)), of(h, of(a)), api.RelNone},
		stand{of(f, of(a), x(1), of(g, of(b))), of(f, of(b), of(a), x(0)), api.RelNone},
		stand{of(f, x(1), of(f, of(a), x(0))), of(f, x(0), of(f, of(a), x(0))), api.RelNone})
}

// TestRanks: of tops of other ranks, the one that ranks higher is above, if it is above each argument of the other one.
func TestRanks(t *testing.T) {
	everywhere(t,
		stand{of(b), of(a), api.RelGreater},
		stand{of(b), of(a, of(a), of(a)), api.RelGreater},
		stand{of(h, of(a)), of(f, of(b), of(b)), api.RelGreater},
		stand{of(h, of(a)), nest(20, g, of(b)), api.RelGreater},
		stand{of(h, x(0)), of(f, x(0), of(g, x(0))), api.RelGreater},
		stand{of(h, x(0)), of(f, of(g, x(0)), of(f, x(0), nest(9, g, x(0)))), api.RelGreater},
		stand{of(m, x(0), x(1)), of(f, of(h, x(1)), x(0), of(h, of(f, x(0), x(1)))), api.RelGreater},
		stand{of(m), of(f, of(h, of(b)), of(g, of(a))), api.RelGreater},
		stand{of(m, x(0)), of(a), api.RelGreater},
		stand{of(b), of(a, x(0)), api.RelNone})
}

// TestRanksButOneArgument: with the higher rank, and not above one argument alone, a term is not above; it is below, if that argument is it or above it.
func TestRanksButOneArgument(t *testing.T) {
	s := of(h, x(0), x(1))
	for _, c := range []struct {
		one  api.Term
		want api.Rel
	}{
		{of(g, x(1)), api.RelGreater}, {of(b), api.RelGreater},
		{x(2), api.RelNone}, {of(f, of(a), of(g, x(2))), api.RelNone}, {of(h, x(1), x(0)), api.RelNone}, {of(m, x(0)), api.RelNone}, {of(h, x(2)), api.RelNone},
		{s, api.RelLess}, {of(m, x(0), x(1)), api.RelLess}, {of(g, s), api.RelLess}, {of(h, of(g, x(0)), x(1)), api.RelLess}, {of(h, x(0), x(1), of(a)), api.RelLess},
	} {
		everywhere(t,
			stand{s, of(g, c.one), c.want},
			stand{s, of(f, c.one, x(0), of(g, x(1))), c.want},
			stand{s, of(f, of(b), c.one, of(g, x(1))), c.want},
			stand{s, of(f, of(b), x(0), c.one), c.want},
			stand{s, of(f, of(b), of(f, x(0), of(g, c.one)), x(1)), c.want})
	}
}

// TestFirstArgumentsThatDiffer: at the first, a middle and the last place, where a term is above the arguments behind it, too.
func TestFirstArgumentsThatDiffer(t *testing.T) {
	for _, c := range []stand{
		{of(b), of(a), api.RelGreater},
		{of(g, x(0)), x(0), api.RelGreater},
		{of(f, of(g, of(a)), x(0)), of(g, of(a)), api.RelGreater},
		{of(h, x(0), x(1)), of(g, of(f, x(1), x(0))), api.RelGreater},
		{of(g, of(b), x(0)), of(g, of(a), x(0)), api.RelGreater},
		{x(0), x(0), api.RelEqual},
		{of(b), of(b), api.RelEqual},
	} {
		everywhere(t,
			stand{of(m, c.s, of(a), x(1)), of(m, c.t, of(a), x(1)), c.want},
			stand{of(m, of(a), c.s, x(1)), of(m, of(a), c.t, x(1)), c.want},
			stand{of(m, of(a), x(1), c.s), of(m, of(a), x(1), c.t), c.want},
			stand{of(g, c.s), of(g, c.t), c.want},
			stand{nest(20, g, c.s), nest(20, g, c.t), c.want})
	}
	everywhere(t,
		stand{of(m, of(b), of(a), of(a)), of(m, of(a), of(b), of(b)), api.RelGreater},
		stand{of(m, of(a), of(b), of(a)), of(m, of(a), of(a), of(b)), api.RelGreater},
		stand{of(m, of(b), x(0)), of(m, of(a), of(h, x(0))), api.RelGreater},
		stand{of(m, of(g, x(0)), of(a)), of(m, x(0), nest(9, g, x(0))), api.RelGreater},
		stand{of(f, x(0), x(1)), of(f, x(1), x(0)), api.RelNone},
		stand{of(m, x(0), of(b)), of(m, x(1), of(a)), api.RelNone},
		stand{of(m, of(b), x(0)), of(m, x(0), of(b)), api.RelNone},
		stand{of(f, of(f, of(b), of(a)), of(a)), of(f, of(f, of(a), of(b)), of(b)), api.RelGreater},
		stand{of(f, of(f, x(0), x(1)), x(2)), of(f, x(0), of(f, x(1), x(2))), api.RelGreater})
}

// TestBehindTheFirstThatDiffers: not above one of those alone, a term is not above; it is below, if that one is it or above it.
func TestBehindTheFirstThatDiffers(t *testing.T) {
	s := of(g, of(a), of(b), x(0), x(1))
	for _, c := range []struct {
		one  api.Term
		want api.Rel
	}{
		{of(b), api.RelGreater}, {of(f, x(0), of(b)), api.RelGreater}, {x(1), api.RelGreater},
		{x(2), api.RelNone}, {of(f, of(a), of(f, x(2), x(0))), api.RelNone}, {of(h, of(b)), api.RelNone},
		{s, api.RelLess}, {of(f, s, s), api.RelLess}, {of(g, of(b), x(0), x(1)), api.RelLess}, {of(h, x(1), of(f, x(0), x(0))), api.RelLess},
	} {
		everywhere(t,
			stand{s, of(g, of(a), of(a), c.one, of(b), x(0)), c.want},
			stand{s, of(g, of(a), of(a), of(b), c.one, of(b)), c.want},
			stand{s, of(g, of(a), of(a), of(b), of(b), c.one), c.want},
			stand{s, of(g, of(a), of(a), c.one), c.want})
	}
}

// TestNumbersOfArguments: of the same top, all that both have being the same, the one with more is above; if something differs ahead of that, it tells.
func TestNumbersOfArguments(t *testing.T) {
	everywhere(t,
		stand{of(m, of(a)), of(m), api.RelGreater},
		stand{of(m, x(0)), of(m), api.RelGreater},
		stand{of(m, x(0), of(a)), of(m, x(0)), api.RelGreater},
		stand{of(m, x(0), x(1)), of(m, x(0)), api.RelGreater},
		stand{of(m, of(b), x(0), of(a), of(a)), of(m, of(b), x(0)), api.RelGreater},
		stand{of(a, of(a)), of(a), api.RelGreater},
		stand{of(m, of(a), of(a)), of(m, of(b)), api.RelLess},
		stand{of(m, of(b)), of(m, of(a), of(b), of(h, of(b))), api.RelGreater},
		stand{of(m, of(b)), of(m, of(a), of(m, of(b))), api.RelLess},
		stand{of(m, of(b)), of(m, of(a), x(0)), api.RelNone},
		stand{of(m, x(0), x(1)), of(m, x(1)), api.RelNone},
		stand{of(m, x(0), of(m, x(1))), of(m, x(1)), api.RelGreater})
}

// TestRanksTell, not the numbers: with others the same terms stand otherwise.
func TestRanksTell(t *testing.T) {
	o := api.Order{Lpo: true, Prec: []int{-9, 60, 50, 40, 30, -1, 0}}
	wants(t, o,
		stand{of(a), of(b), api.RelGreater},
		stand{of(a), of(f, of(b), of(g, of(b))), api.RelGreater},
		stand{of(g, x(0)), of(f, x(0), x(0)), api.RelLess},
		stand{of(g, x(0)), of(f, x(1), x(1)), api.RelNone},
		stand{of(g, x(0)), of(h, of(m, x(0), x(0))), api.RelGreater},
		stand{of(m, x(0)), of(h, x(0)), api.RelGreater},
		stand{of(h, of(m, x(0))), of(m, x(0)), api.RelGreater},
		stand{of(f, of(a), of(b)), of(f, of(b), of(a)), api.RelGreater})
}

// TestTruth: $true is below all other ground terms and all that begins with a symbol, and to a variable it stands in no way.
func TestTruth(t *testing.T) {
	for _, o := range orders(t) {
		for _, s := range []api.Term{of(a), of(b), of(g, of(a)), of(h, of(a)), of(f, of(a), of(b)), nest(7, h, of(b)), of(f, x(0), of(a)), of(g, x(1)), of(f, of(0), of(0))} {
			wants(t, o, stand{of(0), s, api.RelLess})
		}
		wants(t, o, stand{of(0), of(0), api.RelEqual}, stand{of(0), x(0), api.RelNone})
	}
}
