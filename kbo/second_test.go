package kbo_test

import (
	"math/rand"
	"slices"
	"testing"

	"syllogism/api"
	"syllogism/kbo"
	"syllogism/prec"
)

func same(s, t api.Term) bool { return s.Fun == t.Fun && slices.EqualFunc(s.Args, t.Args, same) }

// strange says whether something stands in a term that an order does not know.
func strange(o api.Order, t api.Term) bool {
	if t.Fun < 0 && len(t.Args) > 0 || t.Fun >= len(o.Prec) || t.Fun >= len(o.Weights) {
		return true
	}
	return slices.ContainsFunc(t.Args, func(a api.Term) bool { return strange(o, a) })
}

// naiveWeight stops at the bound after each sum.
func naiveWeight(o api.Order, t api.Term) int {
	n := o.Var
	if t.Fun >= 0 {
		n = o.Weights[t.Fun]
	}
	n = min(max(n, 0), most)
	for _, a := range t.Args {
		n = min(n+naiveWeight(o, a), most)
	}
	return n
}

// times is how often a variable stands in a term.
func times(v int, t api.Term) int {
	n := 0
	if t.Fun == v {
		n++
	}
	for _, a := range t.Args {
		n += times(v, a)
	}
	return n
}

// more says whether a variable of t (or of what stands in it) stands more often in it than in s.
func more(part, t, s api.Term) bool {
	return part.Fun < 0 && times(part.Fun, t) > times(part.Fun, s) ||
		slices.ContainsFunc(part.Args, func(a api.Term) bool { return more(a, t, s) })
}

func tower(s, t api.Term) bool {
	return len(s.Args) == 1 && (same(s.Args[0], t) || s.Args[0].Fun == s.Fun && tower(s.Args[0], t))
}

// naiveAbove says what the chapter's words say, one by one; of terms that the order knows.
func naiveAbove(o api.Order, s, t api.Term) bool {
	if more(t, t, s) {
		return false
	}
	if v, w := naiveWeight(o, s), naiveWeight(o, t); v != w {
		return v > w
	}
	if t.Fun < 0 && s.Fun >= 0 && tower(s, t) {
		return true
	}
	if t.Fun >= 0 && s.Fun >= 0 && o.Prec[s.Fun] > o.Prec[t.Fun] {
		return true
	}
	if s.Fun != t.Fun {
		return false
	}
	for i := 0; i < len(s.Args) && i < len(t.Args); i++ {
		if !same(s.Args[i], t.Args[i]) {
			return naiveAbove(o, s.Args[i], t.Args[i])
		}
	}
	return len(s.Args) > len(t.Args)
}

func naive(o api.Order, s, t api.Term) api.Rel {
	switch {
	case strange(o, s) || strange(o, t):
		return api.RelNone
	case same(s, t):
		return api.RelEqual
	case naiveAbove(o, s, t):
		return api.RelGreater
	case naiveAbove(o, t, s):
		return api.RelLess
	}
	return api.RelNone
}

// around is each of some symbols around all of some terms.
func around(symbols map[int]int, l []api.Term) []api.Term {
	var out []api.Term
	for _, n := range []int{f, g, h, m} {
		switch symbols[n] {
		case 1:
			for _, s := range l {
				out = append(out, of(n, s))
			}
		case 2:
			for _, s := range l {
				for _, t := range l {
					out = append(out, of(n, s, t))
				}
			}
		}
	}
	return out
}

// arities is over which signature the terms of P8.3 are: m is there with two arguments.
func arities() map[int]int { return map[int]int{f: 2, g: 1, h: 1, m: 2} }

// smallTerms may all be over one signature.
func smallTerms() []api.Term {
	l := []api.Term{x(0), x(1), of(0), of(a), of(b)}
	l = append(l, around(map[int]int{f: 2, g: 1, h: 1}, l)...)
	return append(l, around(map[int]int{g: 1, h: 1}, l[5:])...)
}

// oddTerms are of tops with any numbers of arguments, and hold what orders may not know.
func oddTerms() []api.Term {
	l := []api.Term{x(0), x(1), of(a), of(b), of(m), of(g), of(9), x(0, of(a)), x(1, x(1))}
	l = append(l, of(m, x(0)), of(m, x(1)), of(m, of(a)), of(m, of(a), of(a)), of(m, x(0), of(a)), of(m, x(0), x(0)), of(m, x(1), x(0)), of(m, of(m), of(m), of(m)))
	return append(l, around(arities(), l)...)
}

// signature is one of the arities; $true is number 0.
func signature() api.Sig {
	sig := api.Sig{Syms: []api.Sym{{Name: "$true", Pred: true}, {Name: "a"}, {Name: "b"}, {Name: "f"}, {Name: "g"}, {Name: "h"}, {Name: "m"}}}
	for n, k := range arities() {
		sig.Syms[n].Arity = k
	}
	return sig
}

// orders may be over the signature.
func orders(t *testing.T) []api.Order {
	l := []api.Order{
		{Prec: []int{0, 1, 2, 3, 4, 5, 6}, Weights: []int{1, 1, 1, 1, 1, 1, 1}, Var: 1},
		{Prec: []int{0, 6, 5, 4, 2, 3, 1}, Weights: []int{1, 1, 1, 0, 1, 1, 0}, Var: 1},
		{Prec: []int{-5, 6, 0, 4, 99, 3, 1}, Weights: []int{2, 3, 2, 0, 0, 1, 1}, Var: 2},
		{Prec: []int{-5, 6, 0, 4, 2, 100, 1}, Weights: []int{1000, 1000, 1000, 1000, 1, 0, 1000}, Var: 1000},
		{Prec: []int{0, 2, 1, 9, 4, 3, 7}, Weights: []int{1, 2, 1, 0, 1, 2, 3}, Var: 1},
	}
	for _, by := range []api.PrecBy{api.PrecNumber, api.PrecArity, api.PrecUnary} {
		for _, w := range []api.WeightBy{api.WeightArity, api.WeightRank} {
			o, e := prec.Make(signature(), nil, api.OrderWay{Prec: by, Weight: w, Top: true})
			if e != api.OK {
				t.Fatal(e)
			}
			l = append(l, o)
		}
	}
	for _, o := range l {
		if e := prec.Check(signature(), o); e != api.OK {
			t.Fatal(o, e)
		}
	}
	return l
}

// oddOrders may not be over it.
func oddOrders() []api.Order {
	ranks := []int{0, 1, 2, 3, 4, 5, 6}
	return []api.Order{
		{Prec: ranks, Weights: []int{0, 0, 0, 0, 0, 0, 0}},
		{Prec: ranks, Weights: []int{-1, -2, -3, 0, -5, -6, -7}, Var: -1},
		{Prec: ranks, Weights: []int{1, 1, 1, 0, 0, 0, 0}, Var: 1},
		{Prec: ranks, Weights: []int{1, 0, 1, -1, 0, 1, -9}, Var: 0},
		{Prec: ranks, Weights: []int{1, 1, most, 0, 1, most, 0}, Var: most},
		{Prec: []int{3, 3, 3, 3, 3, 3, 3}, Weights: []int{1, 1, 1, 1, 0, 0, 1}, Var: 1},
		{Prec: []int{5, 1, 1, 4, 4, 2, 2, 0, 0, 0}, Weights: []int{1, 1, 1, 1, 1, 1, 1}, Var: 1},
		{Prec: ranks[:6], Weights: []int{1, 1, 1, 1, 1, 1, 1}, Var: 1},
		{Prec: ranks, Weights: []int{1, 1, 1, 1}, Var: 1},
		{Lpo: true, Prec: ranks, Weights: []int{1, 1, 1, 1, 0, 1, 1}, Var: 1},
		{Lpo: true, Prec: ranks},
		{Var: 4},
		{},
	}
}

// TestAgainstASecondWay: all pairs of small terms, in orders that may be and in others.
func TestAgainstASecondWay(t *testing.T) {
	r := rand.New(rand.NewSource(8))
	for i, o := range append(orders(t), oddOrders()...) {
		for _, l := range [][]api.Term{smallTerms(), oddTerms()} {
			for range 2000 {
				s, u := l[r.Intn(len(l))], l[r.Intn(len(l))]
				held(t, i, o, s, u)
				held(t, i, o, of(f, s, u), of(f, u, s))
				held(t, i, o, of(m, u, s, of(a)), of(m, u, l[r.Intn(len(l))], x(1)))
			}
		}
	}
}

func held(t *testing.T, i int, o api.Order, s, u api.Term) {
	t.Helper()
	w, n := naive(o, s, u), 0
	if !strange(o, s) {
		n = naiveWeight(o, s)
	}
	if r, k := kbo.Cmp(o, s, u), kbo.Weight(o, s); r != w || k != n || kbo.Above(o, s, u) != (w == api.RelGreater) {
		t.Errorf("order %d: %s (%d, not %d) and %s: %v, not %v", i, show(s), k, n, show(u), r, w)
	}
}

// randomTerm is over the signature.
func randomTerm(r *rand.Rand, depth int) api.Term {
	n := r.Intn(9)
	if n > m || depth == 0 && arities()[n] > 0 {
		return x(r.Intn(3))
	}
	t := of(n)
	for range arities()[n] {
		t.Args = append(t.Args, randomTerm(r, depth-1))
	}
	return t
}

// changed puts a random term in at some place.
func changed(r *rand.Rand, t api.Term) api.Term {
	if len(t.Args) == 0 || r.Intn(4) == 0 {
		return randomTerm(r, 2)
	}
	t.Args = slices.Clone(t.Args)
	i := r.Intn(len(t.Args))
	t.Args[i] = changed(r, t.Args[i])
	return t
}

// TestLargeTermsAgainstASecondWay: pairs that are much alike.
func TestLargeTermsAgainstASecondWay(t *testing.T) {
	r := rand.New(rand.NewSource(88))
	for i, o := range append(orders(t), oddOrders()[:7]...) {
		for range 300 {
			s := randomTerm(r, 6)
			held(t, i, o, s, changed(r, s))
			held(t, i, o, changed(r, s), changed(r, s))
		}
	}
}
