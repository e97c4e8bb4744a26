package lpo_test

import (
	"math/rand"
	"slices"
	"strconv"
	"testing"

	"syllogism/api"
	"syllogism/lpo"
	"syllogism/prec"
)

func same(s, t api.Term) bool { return s.Fun == t.Fun && slices.EqualFunc(s.Args, t.Args, same) }

// strange says whether something stands in a term that an order does not know.
func strange(o api.Order, t api.Term) bool {
	if t.Fun < 0 && len(t.Args) > 0 || t.Fun >= len(o.Prec) {
		return true
	}
	return slices.ContainsFunc(t.Args, func(a api.Term) bool { return strange(o, a) })
}

func stands(v int, t api.Term) bool {
	return t.Fun == v || slices.ContainsFunc(t.Args, func(a api.Term) bool { return stands(v, a) })
}

// second says what the chapter's words say, one by one, of terms that the order knows. What it has said of two texts it says again.
type second struct {
	ranks []int
	said  map[[2]string]bool
}

func (p second) above(s, t api.Term) bool {
	texts := [2]string{string(text(nil, s)), string(text(nil, t))}
	r, ok := p.said[texts]
	if !ok {
		r = p.words(s, t)
		p.said[texts] = r
	}
	return r
}

// text is quick to write, and no two terms have the same one.
func text(out []byte, t api.Term) []byte {
	out = strconv.AppendInt(out, int64(t.Fun), 36)
	for _, a := range t.Args {
		out = text(append(out, '('), a)
	}
	return append(out, ')')
}

func (p second) words(s, t api.Term) bool {
	switch {
	case s.Fun < 0:
		return false
	case t.Fun < 0 && stands(t.Fun, s):
		return true
	case slices.ContainsFunc(s.Args, func(a api.Term) bool { return same(a, t) || p.above(a, t) }):
		return true
	case t.Fun < 0 || slices.ContainsFunc(t.Args, func(a api.Term) bool { return !p.above(s, a) }):
		return false
	case p.ranks[s.Fun] > p.ranks[t.Fun]:
		return true
	case s.Fun != t.Fun:
		return false
	}
	for i := 0; i < len(s.Args) && i < len(t.Args); i++ {
		if !same(s.Args[i], t.Args[i]) {
			return p.above(s.Args[i], t.Args[i])
		}
	}
	return len(s.Args) > len(t.Args)
}

func naive(o api.Order, s, t api.Term) api.Rel {
	p := second{o.Prec, map[[2]string]bool{}}
	switch {
	case strange(o, s) || strange(o, t):
		return api.RelNone
	case same(s, t):
		return api.RelEqual
	case p.above(s, t):
		return api.RelGreater
	case p.above(t, s):
		return api.RelLess
	}
	return api.RelNone
}

// around is each of some symbols around all of some terms.
func around(symbols map[int]int, l []api.Term) []api.Term {
	var out []api.Term
	for _, n := range []int{f, g, h, m} {
		switch symbols[n] {
		case 1:
			for _, s := range l {
				out = append(out, of(n, s))
			}
		case 2:
			for _, s := range l {
				for _, t := range l {
					out = append(out, of(n, s, t))
				}
			}
		}
	}
	return out
}

// arities is over which signature the terms of P9.2 are: m is there with two arguments.
func arities() map[int]int { return map[int]int{f: 2, g: 1, h: 1, m: 2} }

// smallTerms may all be over one signature.
func smallTerms() []api.Term {
	l := []api.Term{x(0), x(1), of(0), of(a), of(b)}
	l = append(l, around(map[int]int{f: 2, g: 1, h: 1}, l)...)
	return append(l, around(map[int]int{g: 1, h: 1}, l[5:])...)
}

// oddTerms are of tops with any numbers of arguments, and hold what orders may not know.
func oddTerms() []api.Term {
	l := []api.Term{x(0), x(1), of(a), of(b), of(m), of(g), of(9), x(0, of(a)), x(1, x(1))}
	l = append(l, of(m, x(0)), of(m, x(1)), of(m, of(a)), of(m, of(a), of(a)), of(m, x(0), of(a)), of(m, x(0), x(0)), of(m, x(1), x(0)), of(m, of(m), of(m), of(m)))
	return append(l, around(arities(), l)...)
}

// signature is one of the arities; $true is number 0.
func signature() api.Sig {
	sig := api.Sig{Syms: []api.Sym{{Name: "$true", Pred: true}, {Name: "a"}, {Name: "b"}, {Name: "f"}, {Name: "g"}, {Name: "h"}, {Name: "m"}}}
	for n, k := range arities() {
		sig.Syms[n].Arity = k
	}
	return sig
}

// orders may be over the signature; one of them is a KBO, of which the ranks alone are looked at.
func orders(t *testing.T) []api.Order {
	l := []api.Order{
		{Lpo: true, Prec: []int{0, 1, 2, 3, 4, 5, 6}},
		{Lpo: true, Prec: []int{0, 6, 5, 4, 2, 3, 1}},
		{Lpo: true, Prec: []int{-5, 6, 0, 4, 99, 3, 1}},
		{Lpo: true, Prec: []int{-5, -4, 3, 2, -1, 0, 1}, Weights: []int{7}, Var: -3},
		{Lpo: true, Prec: []int{1, 2, 8, 9, 4, 3, 7}},
		{Prec: []int{0, 2, 1, 9, 4, 3, 7}, Weights: []int{1, 2, 1, 0, 1, 2, 3}, Var: 1},
	}
	for _, by := range []api.PrecBy{api.PrecNumber, api.PrecArity, api.PrecUnary, api.PrecSeldom} {
		o, e := prec.Make(signature(), nil, api.OrderWay{Lpo: true, Prec: by})
		if e != api.OK {
			t.Fatal(e)
		}
		l = append(l, o)
	}
	for _, o := range l {
		if e := prec.Check(signature(), o); e != api.OK {
			t.Fatal(o, e)
		}
	}
	return l
}

// oddOrders may not be over it.
func oddOrders() []api.Order {
	return []api.Order{
		{Lpo: true, Prec: []int{3, 3, 3, 3, 3, 3, 3}},
		{Lpo: true, Prec: []int{5, 1, 1, 4, 4, 2, 2, 0, 0, 0}},
		{Lpo: true, Prec: []int{0, 1, 1, 2, 2, 1, 2}},
		{Lpo: true, Prec: []int{6, 5, 4, 3, 2, 1, 0}},
		{Lpo: true, Prec: []int{0, 1, 2, 3, 4, 5}},
		{Lpo: true, Prec: []int{0, 1, 2}},
		{Prec: []int{0, 1, 2, 3, 4, 5, 6}},
		{Weights: []int{1, 1, 1, 1, 1, 1, 1}, Var: 4},
		{Lpo: true},
		{},
	}
}

// TestAgainstASecondWay: pairs of small terms, in orders that may be and in others.
func TestAgainstASecondWay(t *testing.T) {
	r := rand.New(rand.NewSource(9))
	for i, o := range append(orders(t), oddOrders()...) {
		for _, l := range [][]api.Term{smallTerms(), oddTerms()} {
			for range 1000 {
				s, u := l[r.Intn(len(l))], l[r.Intn(len(l))]
				held(t, i, o, s, u)
				held(t, i, o, of(f, s, u), of(f, u, s))
				held(t, i, o, of(m, u, s, of(a)), of(m, u, l[r.Intn(len(l))], x(1)))
				held(t, i, o, of(h, of(f, s, u)), of(m, s, l[r.Intn(len(l))]))
			}
		}
	}
}

func held(t *testing.T, i int, o api.Order, s, u api.Term) {
	t.Helper()
	w := naive(o, s, u)
	if r := lpo.Cmp(o, s, u); r != w || lpo.Above(o, s, u) != (w == api.RelGreater) || lpo.Above(o, u, s) != (w == api.RelLess) {
		t.Errorf("order %d: %s and %s: %v, not %v", i, show(s), show(u), r, w)
	}
}

// randomTerm is over the signature.
func randomTerm(r *rand.Rand, depth int) api.Term {
	n := r.Intn(9)
	if n > m || depth == 0 && arities()[n] > 0 {
		return x(r.Intn(3))
	}
	t := of(n)
	for range arities()[n] {
		t.Args = append(t.Args, randomTerm(r, depth-1))
	}
	return t
}

// changed puts a random term in at some place.
func changed(r *rand.Rand, t api.Term) api.Term {
	if len(t.Args) == 0 || r.Intn(4) == 0 {
		return randomTerm(r, 2)
	}
	t.Args = slices.Clone(t.Args)
	i := r.Intn(len(t.Args))
	t.Args[i] = changed(r, t.Args[i])
	return t
}

// TestLargeTermsAgainstASecondWay: pairs that are much alike, and others.
func TestLargeTermsAgainstASecondWay(t *testing.T) {
	r := rand.New(rand.NewSource(99))
	for i, o := range append(orders(t), oddOrders()[:4]...) {
		for range 100 {
			s := of(f, randomTerm(r, 5), randomTerm(r, 5))
			held(t, i, o, s, changed(r, s))
			held(t, i, o, changed(r, s), changed(r, s))
			held(t, i, o, s, of(m, randomTerm(r, 5), randomTerm(r, 4)))
		}
	}
}
