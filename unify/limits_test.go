package unify_test

import (
	"math"
	"slices"
	"testing"

	"syllogism/api"
	"syllogism/term"
	"syllogism/unify"
)

func TestHowManyPairs(t *testing.T) {
	var l []pair
	all := api.Subst{}
	for i := range 64 {
		l = append(l, pair{x(i + 1), x(i)})
		all = append(all, bind(i+1, x(0)))
	}
	want(t, all, api.OK, l...)
	want(t, nil, api.ErrArg, append(l, pair{x(1), x(0)})...)
	want(t, nil, api.ErrArg, append(l, pair{of(a), of(b)})...)
	want(t, nil, api.ErrArg, append(l, pair{of(a), x(96)})...)
	same := slices.Repeat([]pair{{of(a), of(a)}}, 63)
	want(t, nil, api.OK, same...)
	want(t, binds(bind(3, of(a))), api.OK, append(same, pair{x(3), of(a)})...)
	want(t, nil, api.ErrNone, append(same, pair{of(b), of(a)})...)
	want(t, nil, api.ErrArg, slices.Repeat(same, 2)...)
	if s, e := unify.Pairs(slices.Repeat(same, 1000)); e != api.ErrArg || s != nil {
		t.Error(e)
	}
}

func TestNumbersOfVariables(t *testing.T) {
	want(t, binds(bind(95, of(a))), api.OK, pair{x(95), of(a)})
	want(t, nil, api.OK, pair{x(95), x(95)})
	want(t, binds(bind(0, of(g, x(95)))), api.OK, pair{x(0), of(g, x(95))})
	want(t, nil, api.ErrArg, pair{x(96), of(a)})
	want(t, nil, api.ErrArg, pair{x(96), x(96)})
	want(t, nil, api.ErrArg, pair{x(0), of(g, x(96))})
	var l []pair
	args := [2][]api.Term{}
	for i := range 48 {
		l = append(l, pair{x(i), x(95 - i)})
		args[0], args[1] = append(args[0], x(i)), append(args[1], x(i+48))
	}
	var all, moved api.Subst
	for i := range 48 {
		all, moved = append(all, bind(48+i, x(47-i))), append(moved, bind(48+i, x(i)))
	}
	want(t, all, api.OK, l...)
	want(t, moved, api.OK, pair{of(h, args[0]...), of(h, args[1]...)})
}

func TestSizeHandedIn(t *testing.T) {
	most := flat(api.MaxSize)
	want(t, binds(bind(0, most)), api.OK, pair{x(0), most})
	want(t, nil, api.OK, pair{most, most})
	want(t, binds(bind(2, of(h, x(1)))), api.OK, pair{most, most}, pair{x(2), of(h, x(1))})
	want(t, nil, api.ErrArg, pair{x(0), flat(api.MaxSize + 1)})
	want(t, nil, api.ErrArg, pair{flat(api.MaxSize + 1), flat(api.MaxSize + 1)})
	want(t, nil, api.ErrArg, pair{x(0), of(f, flat(150), flat(150))})
	want(t, binds(bind(0, of(f, flat(150), flat(149)))), api.OK, pair{x(0), of(f, flat(150), flat(149))})
}

func TestDepthHandedIn(t *testing.T) {
	most := nest(api.MaxDepth-1, of(a))
	if term.Depth(most) != api.MaxDepth {
		t.Fatal(term.Depth(most))
	}
	want(t, binds(bind(0, most)), api.OK, pair{x(0), most})
	want(t, binds(bind(0, of(a))), api.OK, pair{nest(api.MaxDepth-1, x(0)), most})
	want(t, nil, api.ErrArg, pair{x(0), of(g, most)})
	want(t, nil, api.ErrArg, pair{x(0), nest(api.MaxDepth, x(1))})
	want(t, nil, api.ErrArg, pair{of(g, most), of(g, most)})
	want(t, nil, api.ErrArg, pair{of(b), of(f, of(a), most)})
}

func TestSizeOfUnifier(t *testing.T) {
	inner := flat(149)
	whole := of(h, inner, inner, of(a))
	if term.Size(whole) != api.MaxSize {
		t.Fatal(term.Size(whole))
	}
	want(t, binds(bind(0, whole), bind(1, inner)), api.OK, pair{x(0), of(h, x(1), x(1), of(a))}, pair{x(1), inner})
	want(t, nil, api.ErrLong, pair{x(0), of(h, x(1), x(1), of(a), of(a))}, pair{x(1), inner})
	want(t, nil, api.ErrLong, pair{x(0), of(h, x(1), x(1))}, pair{x(1), flat(150)})
	want(t, nil, api.ErrLong, pair{x(2), x(0)}, pair{x(0), of(h, x(1), x(1))}, pair{x(1), flat(150)})
	want(t, nil, api.ErrLong, pair{of(f, x(7), of(f, x(3), x(5))), of(f, flat(150), of(f, of(h, x(7), x(7)), of(a)))})
	s, e := unified(t, doubling(0, 7)...)
	if e != api.OK || len(s) != 7 || term.Size(s[0].T) != 255 {
		t.Error(len(s), e)
	}
	want(t, nil, api.ErrLong, doubling(0, 8)...)
}

func TestDepthOfUnifier(t *testing.T) {
	want(t, binds(bind(0, nest(29, of(a))), bind(1, nest(14, of(a)))), api.OK, pair{x(0), nest(15, x(1))}, pair{x(1), nest(14, of(a))})
	want(t, nil, api.ErrLong, pair{x(0), nest(15, x(1))}, pair{x(1), nest(15, of(a))})
	want(t, binds(bind(0, nest(29, x(3))), bind(1, nest(14, x(3))), bind(4, x(3))), api.OK, pair{x(0), nest(15, x(1))}, pair{x(1), nest(14, x(4))}, pair{x(3), x(4)})
	want(t, nil, api.ErrLong, pair{of(f, x(5), of(f, x(1), of(a))), of(f, of(f, of(a), nest(14, x(1))), of(f, nest(15, x(0)), x(0)))})
}

// TestDeepestArgument: whichever argument is the deepest one.
func TestDeepestArgument(t *testing.T) {
	inner := nest(14, of(a))
	for i := range 3 {
		args, all := []api.Term{of(a), of(a), of(a)}, []api.Term{of(a), of(a), of(a)}
		args[i], all[i] = nest(14, x(1)), nest(14, inner)
		want(t, binds(bind(0, of(h, all...)), bind(1, inner)), api.OK, pair{x(0), of(h, args...)}, pair{x(1), inner})
		want(t, nil, api.ErrLong, pair{x(0), of(h, args...)}, pair{x(1), of(g, inner)})
	}
}

// TestOnlyWhatIsPutInCounts: what both of a pair become may be larger and deeper than the limits.
func TestOnlyWhatIsPutInCounts(t *testing.T) {
	want(t, binds(bind(0, flat(200)), bind(1, flat(200))), api.OK, pair{of(f, x(0), x(0)), of(f, flat(200), x(1))})
	want(t, binds(bind(0, nest(20, of(a))), bind(1, nest(20, of(a)))), api.OK, pair{nest(20, x(0)), nest(20, x(1))}, pair{x(1), nest(20, of(a))})
}

func TestDoublingEnds(t *testing.T) {
	l := doubling(0, 63)
	want(t, nil, api.ErrLong, l...)
	want(t, nil, api.ErrLong, append(l, pair{x(63), of(a)})...)
	want(t, nil, api.ErrNone, append(l, pair{x(63), of(g, x(0))})...)
	want(t, nil, api.ErrNone, append(l, pair{x(62), of(a)})...)
	want(t, nil, api.ErrNone, append(l, pair{of(a), of(b)})...)
	both := append(doubling(0, 30), doubling(32, 30)...)
	want(t, nil, api.ErrLong, append(both, pair{x(0), x(32)})...)
	want(t, nil, api.ErrNone, append(both, pair{x(0), x(32)}, pair{x(30), of(a)}, pair{x(62), of(b)})...)
	want(t, nil, api.ErrNone, append(both, pair{x(0), x(32)}, pair{x(30), x(33)})...)
	var names, twins []api.Term
	for i := range 60 {
		names, twins = append(names, x(i)), append(twins, of(f, x(i+1), x(i+1)))
	}
	left, right := of(h, names...), of(h, twins...)
	want(t, nil, api.ErrLong, pair{left, right})
	want(t, nil, api.ErrNone, pair{of(f, left, x(0)), of(f, right, x(60))})
	want(t, nil, api.ErrNone, pair{of(f, left, of(a)), of(f, right, of(b))})
	if !unify.Can(left, right) || unify.Can(of(f, left, x(60)), of(f, right, x(0))) {
		t.Error("Can")
	}
}

// TestNoneAheadOfLong: pairs without a unifier whose terms would be too large.
func TestNoneAheadOfLong(t *testing.T) {
	large := []pair{{x(0), of(h, x(1), x(1))}, {x(1), flat(150)}}
	deep := []pair{{x(0), nest(20, x(1))}, {x(1), nest(20, of(a))}}
	for _, l := range [][]pair{large, deep} {
		want(t, nil, api.ErrLong, l...)
		want(t, nil, api.ErrNone, append(slices.Clone(l), pair{x(3), of(g, x(3))})...)
		want(t, nil, api.ErrNone, append(slices.Clone(l), pair{x(0), of(a)})...)
		want(t, nil, api.ErrNone, append(slices.Clone(l), pair{of(f, of(a), of(b)), of(f, x(3), x(3))})...)
	}
	want(t, nil, api.ErrNone, pair{x(0), nest(29, x(1))}, pair{x(1), nest(29, x(0))})
}

// TestLargest: as many pairs as may be, of terms that are as large as may be.
func TestLargest(t *testing.T) {
	var l []pair
	for i := range 64 {
		l = append(l, pair{flat(300), of(h, slices.Repeat([]api.Term{x(i)}, 299)...)})
	}
	if s, e := unified(t, l...); e != api.OK || len(s) != 64 || show(s[63].T) != show(of(a)) {
		t.Error(showSubst(s), e)
	}
	var way []pair
	for i := range 64 {
		way = append(way, pair{x(i), nest(29, x(i+1))})
	}
	want(t, nil, api.ErrLong, way...)
	way[63] = pair{x(63), nest(29, x(0))}
	want(t, nil, api.ErrNone, way...)
	var full [2][]api.Term
	for i := range 10 {
		full[0], full[1] = append(full[0], nest(28, x(i))), append(full[1], nest(28, x(i+1)))
	}
	if s, e := unified(t, slices.Repeat([]pair{{of(h, full[0]...), of(h, full[1]...)}}, 64)...); e != api.OK || len(s) != 10 {
		t.Error(showSubst(s), e)
	}
}

// notWide is terms that are not wide, in each way.
func notWide() []api.Term {
	inner := []api.Term{x(96), x(97), x(math.MaxInt32), x(math.MaxInt), of(math.MinInt), of(-97), x(0, of(a)), x(95, x(1)), x(3, x(3, x(3))), x(1, of(b), of(b))}
	var l []api.Term
	for _, t := range inner {
		l = append(l, t, of(g, t), of(f, of(a), t), of(f, t, x(2)), nest(28, of(f, of(b), t)))
	}
	l = append(l, flat(301), flat(5000), of(g, flat(300)), of(f, flat(200), flat(200)), nest(30, of(a)), nest(30, x(0)), nest(1000, x(0)), of(f, nest(30, of(a)), of(b)), nest(30, x(96)))
	return append(l, endless(g), endless(h), endless(-1))
}

// endless is a term that stands in itself twice.
func endless(fun int) api.Term {
	args := make([]api.Term, 2)
	args[0] = api.Term{Fun: fun, Args: args}
	args[1] = args[0]
	return args[0]
}

func TestNotWide(t *testing.T) {
	for i, w := range notWide() {
		for _, fine := range []api.Term{of(a), x(0), of(g, x(0)), of(f, x(1), x(2)), w} {
			for _, p := range []pair{{w, fine}, {fine, w}} {
				if s, e := unify.Terms(p[0], p[1]); e != api.ErrArg || s != nil {
					t.Error(i, "Terms", showSubst(s), e)
				}
				if unify.Can(p[0], p[1]) {
					t.Error(i, "Can")
				}
				for _, beside := range [][]pair{
					{{of(a), of(a)}},
					{{of(a), of(b)}},
					{{x(0), of(g, x(0))}},
					{{x(0), of(a)}, {x(1), x(0)}, {of(b), x(1)}},
					doubling(0, 63),
					append(doubling(0, 62), pair{of(a), of(b)}),
				} {
					for _, l := range [][]pair{append([]pair{p}, beside...), append(slices.Clone(beside), p), append([]pair{p}, append(slices.Clone(beside), p)...)} {
						if s, e := unify.Pairs(l); e != api.ErrArg || s != nil {
							t.Error(i, "Pairs", showSubst(s), e)
						}
					}
				}
			}
		}
	}
}

// TestZeroTerm: the zero term is a symbol, $true.
func TestZeroTerm(t *testing.T) {
	if s, e := unify.Terms(api.Term{}, api.Term{}); e != api.OK || len(s) != 0 || !unify.Can(api.Term{}, api.Term{}) {
		t.Error(showSubst(s), e)
	}
}
