package unify_test

import (
	"fmt"
	"math"
	"slices"
	"testing"

	"syllogism/api"
	"syllogism/subst"
	"syllogism/term"
	"syllogism/unify"
)

const (
	a = 1
	f = 2
	g = 3
	b = 4
	h = 5 // of as many arguments as are wanted
)

type pair = [2]api.Term

func of(n int, args ...api.Term) api.Term { return api.Term{Fun: n, Args: args} }
func x(k int, args ...api.Term) api.Term  { return api.Term{Fun: -1 - k, Args: args} }

func bind(v int, t api.Term) api.Bind { return api.Bind{Var: v, T: t} }
func binds(l ...api.Bind) api.Subst   { return l }
func list(l ...pair) []pair           { return l }

// show writes a term by its numbers, so that two are the same just if what is shown is.
func show(t api.Term) string { return fmt.Sprint(t.Fun, each(t.Args, show)) }

func showSubst(s api.Subst) string {
	return fmt.Sprint(len(s), each(s, func(b api.Bind) string { return fmt.Sprint(b.Var, ":=", show(b.T)) }))
}

func showPairs(l []pair) string {
	return fmt.Sprint(each(l, func(p pair) string { return show(p[0]) + " with " + show(p[1]) }))
}

func each[E any](l []E, f func(E) string) []string {
	var out []string
	for _, e := range l {
		out = append(out, f(e))
	}
	return out
}

// nest is g so many times around a term.
func nest(n int, t api.Term) api.Term {
	for range n {
		t = of(g, t)
	}
	return t
}

// flat is a term of that size, 2 or more, and of depth 2.
func flat(size int) api.Term { return of(h, slices.Repeat([]api.Term{of(a)}, size-1)...) }

// unified asks by Pairs, holds the answer against P5.3, and, if there is one pair, Terms and Can against it.
func unified(t *testing.T, l ...pair) (api.Subst, api.Errno) {
	t.Helper()
	s, e := unify.Pairs(l)
	if e == api.OK {
		holds(t, l, s)
	} else if s != nil {
		t.Error("beside an error", e, showSubst(s))
	}
	if len(l) == 1 {
		one, err := unify.Terms(l[0][0], l[0][1])
		if err != e || showSubst(one) != showSubst(s) || err != api.OK && one != nil {
			t.Error("Terms", err, showSubst(one), "Pairs", e, showSubst(s))
		}
		if can := unify.Can(l[0][0], l[0][1]); can != (e == api.OK || e == api.ErrLong) {
			t.Error("Can", can, "Pairs", e)
		}
	}
	return s, e
}

// holds is P5.3 for one answer, and that it says no more than it should.
func holds(t *testing.T, l []pair, s api.Subst) {
	t.Helper()
	if e := subst.Check(s); e != api.OK {
		t.Error("may not be:", showSubst(s))
	}
	bound, there := map[int]bool{}, map[int]bool{}
	for _, x := range s {
		bound[x.Var] = true
	}
	for _, p := range l {
		left, right := subst.Apply(s, p[0]), subst.Apply(s, p[1])
		if show(left) != show(right) {
			t.Error("not the same:", show(left), show(right), "by", showSubst(s))
		}
		if show(subst.Apply(s, left)) != show(left) {
			t.Error("put in twice:", showSubst(s))
		}
		for _, v := range slices.Concat(term.Vars(p[0]), term.Vars(p[1])) {
			there[v] = true
		}
	}
	for _, x := range s {
		for _, v := range term.Vars(x.T) {
			if bound[v] || !there[v] {
				t.Error("a variable that is bound, or from nowhere, stands in", showSubst(s))
			}
		}
		if !there[x.Var] || x.T.Fun < 0 && -1-x.T.Fun > x.Var {
			t.Error("binds from nowhere, or not to the least:", showSubst(s))
		}
	}
}

// want asks for the pairs in every order, and with the two of each in either one.
func want(t *testing.T, s api.Subst, e api.Errno, l ...pair) {
	t.Helper()
	orders(l, func(l []pair) {
		if got, err := unified(t, l...); err != e || showSubst(got) != showSubst(s) {
			t.Error(showPairs(l), "got", showSubst(got), err, "want", showSubst(s), e)
		}
	})
}

// orders hands out a list in each order (of longer ones: itself, turned round, and begun in its middle), with pairs turned in all ways (of longer ones: none, each second one, all).
func orders(l []pair, ask func([]pair)) {
	turned := func(l []pair) {
		masks := []uint{0, 0x5555555555555555, math.MaxUint}
		if len(l) <= 4 {
			masks = nil
			for m := range uint(1) << len(l) {
				masks = append(masks, m)
			}
		}
		for _, m := range masks {
			other := slices.Clone(l)
			for i := range other {
				if m>>i&1 == 1 {
					other[i][0], other[i][1] = other[i][1], other[i][0]
				}
			}
			ask(other)
		}
	}
	if len(l) > 4 {
		back := slices.Clone(l)
		slices.Reverse(back)
		turned(l)
		turned(back)
		turned(slices.Concat(l[len(l)/2:], l[:len(l)/2]))
		return
	}
	var place func(done, left []pair)
	place = func(done, left []pair) {
		if len(left) == 0 {
			turned(done)
		}
		for i := range left {
			place(append(slices.Clone(done), left[i]), slices.Concat(left[:i], left[i+1:]))
		}
	}
	place(nil, l)
}

// doubling is X0 with f(X1, X1), X1 with f(X2, X2) and so on, so many pairs, from a variable on.
func doubling(from, n int) []pair {
	var l []pair
	for i := from; i < from+n; i++ {
		l = append(l, pair{x(i), of(f, x(i+1), x(i+1))})
	}
	return l
}

func TestExamples(t *testing.T) {
	s, e := unify.Terms(of(f, x(0), of(a)), of(f, of(g, x(1)), x(1)))
	if e != api.OK || showSubst(s) != showSubst(binds(bind(0, of(g, of(a))), bind(1, of(a)))) {
		t.Error(showSubst(s), e)
	}
	for _, p := range list(pair{x(3), x(1)}, pair{x(1), x(3)}) {
		if s, e := unify.Terms(p[0], p[1]); e != api.OK || showSubst(s) != showSubst(binds(bind(3, x(1)))) {
			t.Error(showSubst(s), e)
		}
	}
	for _, p := range list(pair{x(0), of(g, x(0))}, pair{of(a), of(g, x(0))}) {
		if s, e := unify.Terms(p[0], p[1]); e != api.ErrNone || s != nil {
			t.Error(showSubst(s), e)
		}
	}
	if s, e := unify.Pairs(doubling(0, 8)); e != api.ErrLong || s != nil {
		t.Error(showSubst(s), e)
	}
}

func TestNoPairs(t *testing.T) {
	for _, l := range [][]pair{nil, {}, make([]pair, 0, 3)} {
		if s, e := unify.Pairs(l); e != api.OK || len(s) != 0 {
			t.Error(showSubst(s), e)
		}
	}
}

func TestPlain(t *testing.T) {
	want(t, nil, api.OK, pair{of(a), of(a)})
	want(t, nil, api.OK, pair{x(2), x(2)})
	want(t, nil, api.OK, pair{of(f, x(1), of(g, x(0))), of(f, x(1), of(g, x(0)))})
	want(t, binds(bind(2, of(a))), api.OK, pair{x(2), of(a)})
	want(t, binds(bind(0, of(f, x(1), x(2)))), api.OK, pair{x(0), of(f, x(1), x(2))})
	want(t, binds(bind(0, of(a)), bind(7, of(a))), api.OK, pair{of(f, x(0), x(7)), of(f, x(7), of(a))})
	want(t, binds(bind(1, x(0)), bind(2, of(g, x(0)))), api.OK, pair{of(f, x(1), x(2)), of(f, x(0), of(g, x(1)))})
	want(t, binds(bind(0, of(b)), bind(1, of(g, of(b)))), api.OK, pair{of(f, of(g, x(0)), of(g, x(1))), of(f, x(1), of(g, of(g, of(b))))})
	want(t, nil, api.ErrNone, pair{of(a), of(b)})
	want(t, nil, api.ErrNone, pair{of(f, x(0), x(0)), of(f, of(a), of(b))})
	want(t, nil, api.ErrNone, pair{of(f, x(0), of(a)), of(f, of(g, x(1)), of(g, x(1)))})
	want(t, nil, api.ErrNone, pair{x(0), of(a)}, pair{x(1), of(b)}, pair{x(0), x(1)})
}

// TestAnySymbols: wide terms may be over no signature.
func TestAnySymbols(t *testing.T) {
	want(t, binds(bind(0, of(0))), api.OK, pair{x(0), of(0)})
	want(t, binds(bind(1, of(math.MaxInt, x(0)))), api.OK, pair{of(0, x(1)), of(0, of(math.MaxInt, x(0)))})
	want(t, binds(bind(3, of(f, of(f), of(f, of(f))))), api.OK, pair{x(3), of(f, of(f), of(f, of(f)))})
	want(t, nil, api.ErrNone, pair{of(f), of(f, of(f))})
	want(t, nil, api.ErrNone, pair{of(h, x(0), x(1)), of(h, x(0))})
	want(t, nil, api.ErrNone, pair{of(f, x(0), x(0)), of(f, of(h, x(1)), of(h, x(1), x(1)))})
	want(t, nil, api.ErrNone, pair{of(math.MaxInt), of(math.MaxInt - 1)})
	want(t, nil, api.ErrNone, pair{of(0), of(1)})
	want(t, binds(bind(0, of(a))), api.OK, pair{api.Term{Fun: -1, Args: []api.Term{}}, api.Term{Fun: a, Args: []api.Term{}}})
}

func TestVariables(t *testing.T) {
	want(t, binds(bind(5, x(2))), api.OK, pair{x(5), x(2)})
	want(t, binds(bind(95, x(0))), api.OK, pair{x(0), x(95)})
	want(t, binds(bind(4, x(1)), bind(6, x(1)), bind(9, x(1))), api.OK, pair{x(6), x(9)}, pair{x(4), x(1)}, pair{x(4), x(9)})
	want(t, binds(bind(3, x(2)), bind(5, x(4))), api.OK, pair{x(3), x(2)}, pair{x(5), x(4)}, pair{x(2), x(3)})
	want(t, binds(bind(1, x(0)), bind(2, x(0)), bind(3, x(0))), api.OK, pair{of(h, x(3), x(2), x(1)), of(h, x(2), x(1), x(0))})
	want(t, binds(bind(1, x(0)), bind(2, of(g, x(0))), bind(4, of(g, x(0)))), api.OK, pair{x(2), x(4)}, pair{x(4), of(g, x(1))}, pair{x(2), of(g, x(0))})
	want(t, binds(bind(48, x(0)), bind(94, x(47)), bind(95, of(f, x(0), x(47)))), api.OK, pair{x(95), of(f, x(48), x(94))}, pair{x(95), of(f, x(0), x(47))})
}

// TestRings: of variables alone there is none that matters; with a symbol in it there is no unifier.
func TestRings(t *testing.T) {
	want(t, binds(bind(1, x(0)), bind(2, x(0))), api.OK, pair{x(0), x(1)}, pair{x(1), x(2)}, pair{x(2), x(0)})
	for _, l := range [][]pair{
		{{x(0), of(g, x(0))}},
		{{x(0), of(f, of(a), of(g, of(g, x(0))))}},
		{{of(g, x(7)), x(7)}},
		{{x(0), of(g, x(1))}, {x(1), of(g, x(0))}},
		{{x(0), x(1)}, {x(1), of(g, x(0))}},
		{{x(0), of(g, x(1))}, {x(1), of(g, x(2))}, {x(2), of(g, x(0))}},
		{{x(0), of(f, of(a), x(1))}, {x(1), x(2)}, {x(3), of(f, x(2), of(b))}, {x(0), x(3)}, {x(1), of(g, x(0))}},
		{{of(f, x(0), x(1)), of(f, of(g, x(1)), of(g, x(0)))}},
		{{of(f, x(0), x(0)), of(f, of(g, x(1)), of(g, of(g, x(1))))}},
		{{x(0), of(g, x(1))}, {x(0), of(g, of(g, x(1)))}},
		{{of(h, x(0), x(0), x(2)), of(h, of(f, x(1), x(2)), of(f, x(2), of(g, x(1))), of(a))}},
		{{x(5), of(a)}, {of(g, x(1)), of(g, of(f, x(1), x(5)))}},
	} {
		want(t, nil, api.ErrNone, l...)
	}
	var long []pair
	for i := range 63 {
		long = append(long, pair{x(i), of(g, x(i+1))})
	}
	want(t, nil, api.ErrLong, long...)
	want(t, nil, api.ErrNone, append(long, pair{x(63), of(g, x(0))})...)
	want(t, nil, api.ErrNone, append(long, pair{x(63), x(31)})...)
}

// TestSharedIsNoRing: what stands there twice, not in itself, is fine, whichever is gone into first.
func TestSharedIsNoRing(t *testing.T) {
	want(t, binds(bind(0, of(f, of(g, of(a)), of(f, of(a), of(g, of(a))))), bind(1, of(g, of(a))), bind(2, of(a)), bind(3, of(f, of(a), of(g, of(a))))), api.OK,
		pair{x(0), of(f, x(1), x(3))}, pair{x(1), of(g, x(2))}, pair{x(3), of(f, x(2), x(1))}, pair{x(2), of(a)})
	want(t, binds(bind(0, of(f, of(g, of(g, x(3))), of(g, x(3)))), bind(1, of(g, of(g, x(3)))), bind(2, of(g, x(3)))), api.OK,
		pair{x(0), of(f, x(1), x(2))}, pair{x(1), of(g, x(2))}, pair{x(2), of(g, x(3))})
}

// robinson is a second way: one bind after the other, all terms written out, the greater of two variables bound to the lesser.
func robinson(l []pair) (api.Subst, api.Errno) {
	var s api.Subst
	todo := slices.Clone(l)
	for len(todo) > 0 {
		p := todo[0]
		todo = todo[1:]
		left, right := p[0], p[1]
		if right.Fun < 0 && (left.Fun >= 0 || right.Fun < left.Fun) {
			left, right = right, left
		}
		switch {
		case show(left) == show(right):
		case left.Fun < 0:
			one := binds(bind(-1-left.Fun, right))
			if slices.Contains(term.Vars(right), -1-left.Fun) {
				return nil, api.ErrNone
			}
			s, _ = subst.Compose(s, one)
			for i, q := range todo {
				todo[i] = pair{subst.Apply(one, q[0]), subst.Apply(one, q[1])}
			}
		case left.Fun != right.Fun || len(left.Args) != len(right.Args):
			return nil, api.ErrNone
		default:
			for i := range left.Args {
				todo = append(todo, pair{left.Args[i], right.Args[i]})
			}
		}
	}
	for _, x := range s {
		if term.Size(x.T) > api.MaxSize || term.Depth(x.T) > api.MaxDepth {
			return nil, api.ErrLong
		}
	}
	return s, api.OK
}

// smallTerms is the terms of X0, X1, X2, a, g(..) and f(.., ..) of these, and some that are deeper.
func smallTerms() []api.Term {
	l := []api.Term{x(0), x(1), x(2), of(a)}
	for _, s := range l[:4:4] {
		l = append(l, of(g, s))
		for _, t := range l[:4] {
			l = append(l, of(f, s, t))
		}
	}
	return append(l, of(g, of(g, x(0))), of(f, of(g, x(0)), x(1)), of(f, x(2), of(g, x(1))), of(f, of(f, x(0), x(1)), x(2)), of(f, x(2), of(f, x(1), of(g, x(0)))), of(f, of(f, x(1), of(a)), of(f, x(0), x(2))))
}

// smallSubsts is all substitutions of X0, X1, X2 that bind each to one of some terms, or not.
func smallSubsts() []api.Subst {
	values := []api.Term{x(0), x(1), x(2), of(a), of(g, x(0)), of(f, x(0), x(1)), of(g, of(a))}
	l := []api.Subst{nil}
	for v := range 3 {
		for _, s := range slices.Clone(l) {
			for _, t := range values {
				if show(t) != show(x(v)) {
					l = append(l, append(slices.Clone(s), bind(v, t)))
				}
			}
		}
	}
	return l
}

func same(t *testing.T, l ...pair) {
	t.Helper()
	s, e := robinson(l)
	if got, err := unified(t, l...); err != e || showSubst(got) != showSubst(s) {
		t.Error(showPairs(l), "got", showSubst(got), err, "want", showSubst(s), e)
	}
}

func TestSecondWay(t *testing.T) {
	l := smallTerms()
	for _, s := range l {
		for _, u := range l {
			same(t, pair{s, u})
		}
	}
	for i := range 20000 {
		n := i*7919 + i/13
		at := func(k int) api.Term { return l[n/k%len(l)] }
		same(t, pair{at(1), at(len(l))}, pair{at(31), at(77)})
		same(t, pair{at(1), subst.Move(at(29), 1)}, pair{at(43), at(59)}, pair{at(131), subst.Move(at(11), 2)})
	}
}

// TestMostGeneral is P5.4: each small substitution that makes both the same comes of what is told by putting in more.
func TestMostGeneral(t *testing.T) {
	l, substs := smallTerms(), smallSubsts()
	probes := append([]api.Term{x(0), x(1), x(2), x(3)}, l[len(l)-4:]...)
	found := 0
	for i, s := range l {
		for j, u := range l {
			told, e := unify.Terms(s, u)
			for k := (i + j) % 3; k < len(substs); k += 3 {
				by := substs[k]
				if show(subst.Apply(by, s)) != show(subst.Apply(by, u)) {
					continue
				}
				found++
				if e != api.OK || !unify.Can(s, u) {
					t.Fatal(show(s), show(u), e, "but", showSubst(by))
				}
				for _, p := range probes {
					if show(subst.Apply(by, p)) != show(subst.Apply(by, subst.Apply(told, p))) {
						t.Fatal(show(s), show(u), showSubst(told), "is not above", showSubst(by))
					}
				}
			}
		}
	}
	if found < 5000 {
		t.Error("too few unifiers to tell:", found)
	}
}

func TestMostGeneralOfPairs(t *testing.T) {
	l := []pair{{x(0), of(f, x(1), x(2))}, {of(f, x(1), x(1)), of(f, x(2), x(3))}}
	told, e := unified(t, l...)
	if e != api.OK {
		t.Fatal(e)
	}
	for _, r := range smallTerms() {
		by := binds(bind(0, of(f, r, r)), bind(1, r), bind(2, r), bind(3, r))
		by = slices.DeleteFunc(by, func(b api.Bind) bool { return show(b.T) == show(x(b.Var)) })
		for v := range 4 {
			if show(subst.Apply(by, x(v))) != show(subst.Apply(by, subst.Apply(told, x(v)))) {
				t.Error(showSubst(told), "is not above", showSubst(by))
			}
		}
	}
}

func TestOrderOfPairs(t *testing.T) {
	for _, l := range [][]pair{
		{{x(0), of(f, x(1), x(2))}, {x(1), of(g, x(3))}, {x(3), x(2)}},
		{{x(4), x(3)}, {x(3), x(2)}, {x(2), x(1)}, {x(9), of(f, x(4), x(1))}},
		{{of(f, x(5), x(1)), of(f, x(2), x(3))}, {x(1), x(5)}, {of(g, x(7)), of(g, of(f, x(3), x(6)))}, {x(6), x(8)}},
		{{x(0), of(f, x(1), x(1))}, {x(0), of(f, of(g, x(2)), x(3))}, {x(3), of(g, of(a))}},
		{{x(0), of(a)}, {x(1), of(b)}, {of(f, x(0), x(2)), of(f, x(2), x(1))}},
		{{x(1), x(0)}, {x(2), x(0)}, {x(3), of(g, x(2))}, {x(3), of(g, x(1))}, {x(4), x(3)}},
	} {
		s, e := robinson(l)
		want(t, s, e, l...)
	}
}
