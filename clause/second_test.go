package clause_test

import (
	"math/rand"
	"slices"
	"testing"

	"syllogism/api"
	"syllogism/clause"
	"syllogism/subst"
)

// pairing is which variables of two clauses stand for each other: a plain second way, without matchers and normal forms.
type pairing [][2]int

// with is the pairing in which two terms are the same, if there is one.
func (l pairing) with(s, t api.Term) (pairing, bool) {
	if s.Fun >= 0 || t.Fun >= 0 {
		if s.Fun != t.Fun {
			return nil, false
		}
	} else {
		for _, k := range l {
			if (k[0] == s.Fun) != (k[1] == t.Fun) {
				return nil, false
			}
		}
		l = append(slices.Clip(l), [2]int{s.Fun, t.Fun})
	}
	ok := len(s.Args) == len(t.Args)
	for i := 0; ok && i < len(s.Args); i++ {
		l, ok = l.with(s.Args[i], t.Args[i])
	}
	return l, ok
}

func (l pairing) withLit(m, n api.Lit) (pairing, bool) {
	if m.Neg != n.Neg {
		return nil, false
	}
	l, ok := l.with(m.L, n.L)
	if !ok {
		return nil, false
	}
	return l.with(m.R, n.R)
}

// naiveVariant pairs the clauses' variables as both are read.
func naiveVariant(c, d api.Clause) bool {
	ok := len(c) == len(d)
	var l pairing
	for i := 0; ok && i < len(c); i++ {
		l, ok = l.withLit(c[i], d[i])
	}
	return ok
}

// odd: does a variable with arguments stand in it?
func odd(t api.Term) bool { return t.Fun < 0 && len(t.Args) > 0 || slices.ContainsFunc(t.Args, odd) }

func oddClause(c api.Clause) bool {
	return slices.ContainsFunc(c, func(l api.Lit) bool { return odd(l.L) || odd(l.R) })
}

// enough is so many tries that more would tell nothing.
const enough = 2 * api.MaxTries

// search is a row of choices yet to be made, on a pile: the search is told without calls within calls.
type search struct {
	done  []int
	pairs pairing
}

// naiveAlike searches with copies of all it knows, as far as it goes, and counts the tries.
func naiveAlike(c, d api.Clause) (bool, int) {
	if len(c) != len(d) {
		return false, 0
	}
	if len(c) == 0 {
		return true, 0
	}
	tries := 0
	type option struct {
		from   search
		j      int
		turned bool
	}
	var pile []option
	open := func(s search) {
		for j := len(d) - 1; j >= 0; j-- {
			if !slices.Contains(s.done, j) {
				pile = append(pile, option{s, j, true}, option{s, j, false})
			}
		}
	}
	open(search{})
	for len(pile) > 0 && tries < enough {
		o := pile[len(pile)-1]
		pile = pile[:len(pile)-1]
		tries++
		l, m := c[len(o.from.done)], d[o.j]
		if o.turned {
			m = turn(m)
		}
		if oddClause(lits(l, m)) {
			continue
		}
		if pairs, ok := o.from.pairs.withLit(l, m); ok {
			next := search{append(slices.Clip(o.from.done), o.j), pairs}
			if len(next.done) == len(c) {
				return true, tries
			}
			open(next)
		}
	}
	return false, tries
}

// heldAlike holds Alike against the second way, and tells what that counted.
func heldAlike(t *testing.T, c, d api.Clause) (bool, int) {
	t.Helper()
	found, tries := naiveAlike(c, d)
	want := found && tries <= api.MaxTries && len(c) <= api.MaxLits
	if got := clause.Alike(c, d); got != want {
		t.Errorf("%s and %s: %v, not %v in %d tries", show(c), show(d), got, want, tries)
	}
	return found, tries
}

// heldVariant holds Variant against the second way, and against the normal forms.
func heldVariant(t *testing.T, c, d api.Clause) bool {
	t.Helper()
	want := naiveVariant(c, d)
	if got := clause.Variant(c, d); got != want {
		t.Errorf("%s and %s: %v, not %v", show(c), show(d), got, want)
	}
	one, _ := subst.Normal(c)
	two, _ := subst.Normal(d)
	if slices.EqualFunc(one, two, sameLit) != want || clause.Same(one, two) != want {
		t.Errorf("%s and %s: normal forms %s and %s", show(c), show(d), show(one), show(two))
	}
	return want
}

// smallLits are literals of each kind, some of which are others renamed, turned or denied.
func smallLits() []api.Lit {
	return []api.Lit{
		eq(x(0), x(1)), eq(x(1), x(0)), eq(x(0), x(0)), ne(x(0), x(1)), ne(x(1), x(1)),
		eq(x(0), of(a)), eq(of(a), x(1)), ne(of(a), x(0)), eq(of(a), of(b)), eq(of(g, x(0)), x(1)), eq(x(0), of(g, x(1))),
		eq(of(f, x(0), x(1)), of(f, x(1), x(0))), eq(of(f, x(0), of(a)), of(f, of(a), x(0))),
		atom(of(p, x(0))), atom(of(p, x(1))), deny(of(p, x(0))), atom(of(q)), deny(of(q)), atom(of(r, x(0), x(1))), deny(of(r, x(1), x(1))),
	}
}

// oddLits are such as may not be.
func oddLits() []api.Lit {
	return []api.Lit{
		eq(of(0), of(0)), ne(of(0), of(0)), eq(of(0), of(p, x(0))), eq(x(0), of(0)), eq(of(0), x(1)), eq(of(a), of(0)), eq(of(0), of(a)),
		eq(of(0, x(0)), of(0)), eq(of(0), of(0, x(1))), eq(of(0, of(a)), of(a)), eq(of(99), of(g)), eq(of(g), of(99)), eq(of(p, of(p, x(0))), of(p)),
		eq(of(0), x(0)), eq(x(0, of(a)), of(a)), eq(x(1, of(a)), of(a)), eq(x(0), x(0, x(1))), eq(of(g, x(1, x(0))), x(0)), ne(x(1, x(1)), x(1, x(1))), eq(x(1, x(0)), of(0)),
	}
}

// smallClauses are of none, one and two of some literals.
func smallClauses(l []api.Lit) []api.Clause {
	out := []api.Clause{nil}
	for _, one := range l {
		out = append(out, lits(one))
		for _, two := range l {
			out = append(out, lits(one, two))
		}
	}
	return out
}

func TestAllSmallClauses(t *testing.T) {
	for _, l := range [][]api.Clause{smallClauses(smallLits()), smallClauses(oddLits()), smallClauses(append(oddLits()[:8], smallLits()[9:]...))} {
		variants, alike := 0, 0
		for _, c := range l {
			for _, d := range l {
				if heldVariant(t, c, d) {
					variants++
				}
				if ok, _ := heldAlike(t, c, d); ok {
					alike++
				}
			}
		}
		if variants <= len(l) || alike <= len(l) || alike > len(l)*len(l)/4 {
			t.Error(len(l), variants, alike)
		}
	}
}

// anyTerm is a term of some depth at most.
func anyTerm(r *rand.Rand, depth, vars int) api.Term {
	if n := r.Intn(6); depth == 0 || n < 3 {
		return []api.Term{x(r.Intn(vars)), x(r.Intn(vars)), of(a), of(b)}[r.Intn(4)]
	}
	if r.Intn(2) == 0 {
		return of(f, anyTerm(r, depth-1, vars), anyTerm(r, depth-1, vars))
	}
	return of(g, anyTerm(r, depth-1, vars))
}

func anyLit(r *rand.Rand, depth, vars int) api.Lit {
	var l api.Lit
	switch r.Intn(3) {
	case 0:
		l = atom(of(p, anyTerm(r, depth, vars)))
	default:
		l = eq(anyTerm(r, depth, vars), anyTerm(r, depth, vars))
	}
	l.Neg = r.Intn(3) == 0
	return l
}

func anyClause(r *rand.Rand, n, depth, vars int) api.Clause {
	var c api.Clause
	for range n {
		c = append(c, anyLit(r, depth, vars))
	}
	return c
}

// renamed puts other variables in, each for one.
func renamed(to []int, c api.Clause) api.Clause {
	var put func(t api.Term) api.Term
	put = func(t api.Term) api.Term {
		out := of(t.Fun)
		if t.Fun < 0 {
			out = x(to[-1-t.Fun])
		}
		for _, s := range t.Args {
			out.Args = append(out.Args, put(s))
		}
		return out
	}
	var out api.Clause
	for _, l := range c {
		out = append(out, api.Lit{Neg: l.Neg, L: put(l.L), R: put(l.R)})
	}
	return out
}

// shaken is a clause with its literals in another order, and some of its equations and inequations turned.
func shaken(r *rand.Rand, c api.Clause) api.Clause {
	out := slices.Clone(c)
	r.Shuffle(len(out), func(i, j int) { out[i], out[j] = out[j], out[i] })
	for i, l := range out {
		if l.R.Fun != 0 && r.Intn(2) == 0 {
			out[i] = turn(l)
		}
	}
	return out
}

// nearly changes a clause a little, so that it may be no variant any more.
func nearly(r *rand.Rand, c api.Clause, vars int) api.Clause {
	out := slices.Clone(c)
	i := r.Intn(len(out))
	switch r.Intn(5) {
	case 0:
		out[i] = anyLit(r, 1, vars)
	case 1:
		out[i].Neg = !out[i].Neg
	case 2:
		out[i] = turn(out[i])
	case 3:
		out[i] = out[r.Intn(len(out))]
	case 4: // two variables become one
		to := r.Perm(vars)
		to[0] = to[1]
		out = renamed(to, out)
	}
	return out
}

func TestClausesAnyhow(t *testing.T) {
	r := rand.New(rand.NewSource(11))
	variants, alike, neither := 0, 0, 0
	for range 6000 {
		vars := 2 + r.Intn(4)
		c := anyClause(r, 1+r.Intn(5), r.Intn(4), vars)
		d := renamed(r.Perm(vars), c)
		if !heldVariant(t, c, d) || !clause.Alike(c, d) {
			t.Error(show(c), show(d))
		}
		if r.Intn(2) == 0 {
			d = nearly(r, d, vars)
		}
		if r.Intn(2) == 0 {
			d = shaken(r, d)
		}
		v := heldVariant(t, c, d)
		ok, _ := heldAlike(t, c, d)
		switch {
		case v:
			variants++
		case ok:
			alike++
		default:
			neither++
		}
	}
	if variants < 500 || alike < 500 || neither < 500 {
		t.Error(variants, alike, neither)
	}
}

// TestLongClauses: of many literals, most of which fit none but their own.
func TestLongClauses(t *testing.T) {
	r := rand.New(rand.NewSource(12))
	for range 300 {
		vars := 2 + r.Intn(46)
		c := anyClause(r, 6+r.Intn(13), 6, vars)
		d := shaken(r, renamed(r.Perm(vars), c))
		heldVariant(t, c, d)
		heldAlike(t, c, d)
		heldAlike(t, c, nearly(r, d, vars))
	}
}
