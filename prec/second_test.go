package prec_test

import (
	"math/rand"
	"slices"
	"strconv"
	"testing"

	"syllogism/api"
	"syllogism/prec"
)

// may says of an order what the chapter's words say, one by one; of a signature that may be.
func may(sig api.Sig, o api.Order) bool {
	if len(o.Prec) != len(sig.Syms) {
		return false
	}
	for f := range o.Prec {
		for g := range o.Prec {
			if f != g && o.Prec[f] == o.Prec[g] || o.Prec[f] < o.Prec[0] {
				return false
			}
		}
	}
	if o.Lpo {
		return true
	}
	if len(o.Weights) != len(sig.Syms) || o.Var < 1 || o.Var > 1000 || o.Weights[0] != o.Var {
		return false
	}
	for f, w := range o.Weights {
		above := 0
		for g := range o.Prec {
			if o.Prec[g] > o.Prec[f] {
				above++
			}
		}
		if w < 0 || w > 1000 || sig.Syms[f].Arity == 0 && w < o.Var || sig.Syms[f].Arity == 1 && w == 0 && above > 0 {
			return false
		}
	}
	return true
}

// naiveCount counts by a walk of its own.
func naiveCount(n []int, t api.Term) {
	if t.Fun >= 0 {
		n[t.Fun]++
	}
	for _, a := range t.Args {
		naiveCount(n, a)
	}
}

func naiveCounts(sig api.Sig, l []api.Clause) []int {
	n := make([]int, len(sig.Syms))
	for _, c := range l {
		for _, p := range c {
			naiveCount(n, p.L)
			if p.R.Fun != 0 {
				naiveCount(n, p.R)
			}
		}
	}
	return n
}

// lower says whether one symbol ranks below another one, neither of them $true.
func lower(sig api.Sig, n []int, by api.PrecBy, f, g int) bool {
	one, two := sig.Syms[f].Arity, sig.Syms[g].Arity
	switch {
	case by == api.PrecUnary && (one == 1) != (two == 1):
		return two == 1
	case (by == api.PrecArity || by == api.PrecUnary) && one != two:
		return one < two
	case by == api.PrecOften && n[f] != n[g]:
		return n[f] < n[g]
	case by == api.PrecSeldom && n[f] != n[g]:
		return n[f] > n[g]
	}
	return f < g
}

// naiveMake ranks a symbol by how many others are below it.
func naiveMake(sig api.Sig, l []api.Clause, way api.OrderWay) api.Order {
	n := naiveCounts(sig, l)
	o := api.Order{Lpo: way.Lpo, Prec: make([]int, len(n))}
	for f := 1; f < len(n); f++ {
		o.Prec[f] = 1
		for g := 1; g < len(n); g++ {
			if lower(sig, n, way.Prec, g, f) {
				o.Prec[f]++
			}
		}
	}
	if way.Lpo {
		return o
	}
	o.Var = 1
	for f := range n {
		w := []int{1, sig.Syms[f].Arity + 1, o.Prec[f] + 1, n[f] + 1}[way.Weight]
		if w > 1000 {
			w = 1000
		}
		if f == 0 {
			w = 1
		}
		if way.Top && sig.Syms[f].Arity == 1 && o.Prec[f] == len(n)-1 {
			w = 0
		}
		o.Weights = append(o.Weights, w)
	}
	return o
}

// randomTerm is one that may be on top of nothing: no predicate stands in it.
func randomTerm(r *rand.Rand, sig api.Sig, depth int) api.Term {
	n := r.Intn(len(sig.Syms))
	if depth == 0 || sig.Syms[n].Pred {
		return x(r.Intn(api.MaxVars))
	}
	return randomArgs(r, sig, n, depth)
}

func randomArgs(r *rand.Rand, sig api.Sig, n, depth int) api.Term {
	t := of(n)
	for range sig.Syms[n].Arity {
		t.Args = append(t.Args, randomTerm(r, sig, depth-1))
	}
	return t
}

func randomClause(r *rand.Rand, sig api.Sig) api.Clause {
	var c api.Clause
	for range r.Intn(5) {
		l := api.Lit{Neg: r.Intn(2) == 0}
		if n := r.Intn(len(sig.Syms)); n > 0 && sig.Syms[n].Pred {
			l.L = randomArgs(r, sig, n, 4)
		} else {
			l.L, l.R = randomTerm(r, sig, 3), randomTerm(r, sig, 3)
		}
		c = append(c, l)
	}
	return c
}

func randomSig(r *rand.Rand) api.Sig {
	sig := over()
	for i := range r.Intn(12) {
		sig.Syms = append(sig.Syms, api.Sym{Name: "s" + strconv.Itoa(i), Arity: r.Intn(4), Pred: r.Intn(3) == 0})
	}
	return sig
}

// TestMakeAgainstASecondWay: of many signatures and clauses, by each way; with the clauses, and their literals, in another order (P7.3).
func TestMakeAgainstASecondWay(t *testing.T) {
	r := rand.New(rand.NewSource(7))
	for range 300 {
		sig := randomSig(r)
		var l []api.Clause
		for range r.Intn(6) {
			l = append(l, randomClause(r, sig))
		}
		turned := slices.Clone(l)
		r.Shuffle(len(turned), func(i, j int) { turned[i], turned[j] = turned[j], turned[i] })
		for i := range turned {
			turned[i] = slices.Clone(turned[i])
			slices.Reverse(turned[i])
		}
		for _, c := range [][]api.Clause{l, turned} {
			if n, e := prec.Counts(sig, c); e != api.OK || !slices.Equal(n, naiveCounts(sig, l)) {
				t.Error(sig, c, n, e)
			}
			for _, way := range ways() {
				if o := made(t, sig, c, way); !same(o, naiveMake(sig, l, way)) {
					t.Error(tell(way), sig, c, o, naiveMake(sig, l, way))
				}
			}
		}
	}
}

// TestRanksDoNotHangOnWeights: P7.3.
func TestRanksDoNotHangOnWeights(t *testing.T) {
	sig := over(fun("g", 1), fun("a", 0), pred("p", 1), fun("f", 2), fun("b", 0), fun("h", 1))
	l := clauses(lits(eq(of(1, of(2)), of(4, of(2), of(6, of(5))))), lits(atom(of(3, of(6, of(6, x(0)))))))
	first := map[api.PrecBy]api.Order{}
	for _, way := range ways() {
		o := made(t, sig, l, way)
		if _, ok := first[way.Prec]; !ok {
			first[way.Prec] = o
		}
		if !slices.Equal(o.Prec, first[way.Prec].Prec) {
			t.Error(tell(way), o)
		}
	}
}

// TestFullSignature: as many symbols as may be, each way.
func TestFullSignature(t *testing.T) {
	sig := over()
	for i := range api.MaxSyms - 1 {
		sig.Syms = append(sig.Syms, api.Sym{Name: "s" + strconv.Itoa(i), Arity: (i * 5) % 7, Pred: i%3 == 0})
	}
	r := rand.New(rand.NewSource(3))
	var l []api.Clause
	for range 40 {
		l = append(l, randomClause(r, sig))
	}
	for _, way := range ways() {
		if o := made(t, sig, l, way); !same(o, naiveMake(sig, l, way)) {
			t.Error(tell(way), o)
		}
	}
	o := made(t, sig, nil, api.OrderWay{Prec: api.PrecSeldom, Weight: api.WeightRank})
	for n, w := range o.Weights {
		if o.Prec[n] != n || w != n+1 {
			t.Error(n, o.Prec[n], w)
		}
	}
}

// all hands out each list of n of these numbers.
func all(n int, of []int, hand func([]int)) {
	l := make([]int, n)
	var fill func(i int)
	fill = func(i int) {
		if i == n {
			hand(slices.Clone(l))
			return
		}
		for _, k := range of {
			l[i] = k
			fill(i + 1)
		}
	}
	fill(0)
}

// checked wants of Check what the words say.
func checked(t *testing.T, sig api.Sig, o api.Order) bool {
	t.Helper()
	want := api.ErrArg
	if may(sig, o) {
		want = api.OK
	}
	if e := prec.Check(sig, o); e != want {
		t.Error(sig, o, e)
	}
	return want == api.OK
}

func TestCheckOfAllSmallRanks(t *testing.T) {
	sig := over(fun("g", 1), pred("p", 1), fun("f", 2))
	right := 0
	for n := range 6 {
		all(n, []int{-1, 0, 1, 2, 5}, func(l []int) {
			for _, o := range []api.Order{{Prec: l, Lpo: true}, {Prec: l, Weights: []int{1, 1, 1, 1}, Var: 1}, {Prec: l, Weights: []int{1, 0, 1, 1}, Var: 1}} {
				if checked(t, sig, o) {
					right++
				}
			}
		})
	}
	// Of 5 numbers 4 differ in 5 ways; the least is $true's, the others stand in 6 orders, in 2 of which g is the highest.
	if want := 5 * (6 + 6 + 2); right != want {
		t.Error(right, want)
	}
}

func TestCheckOfAllSmallWeights(t *testing.T) {
	sig := over(fun("a", 0), fun("g", 1), pred("p", 1), pred("q", 2))
	for _, ranks := range [][]int{{0, 1, 2, 3, 4}, {0, 1, 4, 3, 2}, {-9, 3, 1, 90, 2}, {0, 4, 1, 2, 3}} {
		all(5, []int{-1, 0, 1, 2, 1000, 1001}, func(l []int) {
			for _, v := range []int{-1, 0, 1, 2, 1000, 1001} {
				checked(t, sig, api.Order{Prec: ranks, Weights: l, Var: v})
			}
		})
	}
}
