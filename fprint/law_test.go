package fprint_test

import (
	"math/rand"
	"slices"
	"testing"

	"syllogism/api"
	"syllogism/fprint"
	"syllogism/match"
	"syllogism/subst"
	"syllogism/unify"
)

// apart: do they unify, their variables apart?
func apart(u, w api.Term) bool { return unify.Can(u, subst.Move(w, api.MaxVars)) }

func matches(pattern, u api.Term) bool {
	_, ok := match.Match(pattern, u)
	return ok
}

// table is an answer for each two of the terms.
func table(terms []api.Term, ask func(u, w api.Term) bool) [][]bool {
	var out [][]bool
	for _, u := range terms {
		var row []bool
		for _, w := range terms {
			row = append(row, ask(u, w))
		}
		out = append(out, row)
	}
	return out
}

func count(l [][]bool) int {
	n := 0
	for _, row := range l {
		for _, x := range row {
			if x {
				n++
			}
		}
	}
	return n
}

// within: is all that is told here told there, too?
func within(one, other []int) bool {
	return !slices.ContainsFunc(one, func(i int) bool { return !slices.Contains(other, i) })
}

// TestNothingLeftOut: what unifies with a term, what matches it and what it matches is told of all pairs (P18.3).
func TestNothingLeftOut(t *testing.T) {
	terms := append(smallTerms(), strangeTerms()...)
	n := fprint.New()
	for id, u := range terms {
		add(t, n, pair{u, id})
	}
	can, fits := table(terms, apart), table(terms, matches)
	for i, u := range terms {
		one, two, three := n.Unify(u), n.General(u), n.Instances(u)
		for j, w := range terms {
			if can[i][j] && (!slices.Contains(one, j) || !fprint.May(u, w)) {
				t.Error(show(u), "unifies with", show(w))
			}
			if fits[j][i] && !slices.Contains(two, j) {
				t.Error(show(u), "is an instance of", show(w))
			}
			if fits[i][j] && !slices.Contains(three, j) {
				t.Error(show(w), "is an instance of", show(u))
			}
		}
	}
	may := table(terms, fprint.May)
	if all := len(terms) * len(terms); count(can) < all/20 || count(fits) < all/40 || count(may) > all*3/4 {
		t.Error(count(can), count(fits), count(may), "of", all)
	}
}

// TestGeneralUnifies: what an instance unifies with, its general term may unify with (P18.3), and so it is of what may be an instance and may unify.
func TestGeneralUnifies(t *testing.T) {
	terms := append(smallTerms(), strangeTerms()...)
	n := fprint.New()
	for id, u := range terms {
		add(t, n, pair{u, id})
	}
	can, fits := table(terms, apart), table(terms, matches)
	told, mere := 0, 0
	for i, u := range terms {
		one := n.Unify(u)
		for j := range terms {
			if !fits[i][j] {
				continue
			}
			for k, w := range terms {
				if !can[j][k] {
					continue
				}
				if told++; !slices.Contains(one, k) {
					t.Error(show(u), "with", show(w), "by", show(terms[j]))
				}
			}
		}
		for _, j := range n.Instances(u) {
			if mere++; !within(n.Unify(terms[j]), one) {
				t.Error(show(u), show(terms[j]))
			}
		}
	}
	if told < 10000 || mere < 1000 {
		t.Error(told, mere)
	}
}

// TestInstanceBothWays: General of one tells another one just if Instances of that one tells the first; Unify and May are the same either way.
func TestInstanceBothWays(t *testing.T) {
	r := thrower{rand.New(rand.NewSource(182))}
	for range 3000 {
		u, w := r.term(4, true), r.term(4, true)
		one, other := index(t, pair{u, 1}), index(t, pair{w, 1})
		if len(one.General(w)) != len(other.Instances(u)) || len(one.Instances(w)) != len(other.General(u)) {
			t.Error(show(u), show(w))
		}
		if may := fprint.May(u, w); may != fprint.May(w, u) || may != (len(one.Unify(w)) == 1) || may != (len(other.Unify(u)) == 1) {
			t.Error(show(u), show(w), may)
		}
		if !fprint.May(u, u) || !slices.Equal(one.General(u), []int{1}) || !slices.Equal(one.Instances(u), []int{1}) {
			t.Error(show(u))
		}
	}
}

// TestThrownInstances: a term's instances, with whatever put in, are told of it, it of them, and they with what they come of.
func TestThrownInstances(t *testing.T) {
	r := thrower{rand.New(rand.NewSource(183))}
	for range 300 {
		n := fprint.New()
		var terms, became []api.Term
		for id := range 30 {
			u := r.term(1+r.Intn(5), false)
			var s api.Subst
			for v := range 4 {
				if r.Intn(2) == 0 {
					s = append(s, api.Bind{Var: v, T: r.term(1+r.Intn(4), false)})
				}
			}
			terms, became = append(terms, u), append(became, subst.Apply(s, u))
			add(t, n, pair{u, id}, pair{became[id], 100 + id})
		}
		for id, u := range terms {
			w := became[id]
			one, two := n.Unify(u), n.Unify(w)
			if !slices.Contains(n.General(w), id) || !slices.Contains(n.Instances(u), 100+id) || !slices.Contains(one, 100+id) || !slices.Contains(two, id) {
				t.Error(show(u), show(w))
			}
			for other := range terms {
				if apart(w, terms[other]) && !(slices.Contains(one, other) && slices.Contains(two, other)) {
					t.Error(show(u), show(w), show(terms[other]))
				}
			}
		}
	}
}

// TestOrderOfAdds: what is told does not hang on it, nor on what was in and is not any more (P18.4).
func TestOrderOfAdds(t *testing.T) {
	r := thrower{rand.New(rand.NewSource(184))}
	for round := range 60 {
		var l []pair
		for range 60 {
			l = append(l, pair{r.term(4, round%2 == 0), r.Intn(40)})
		}
		l = append(l, l[:20]...)
		one, other, third := index(t, l...), fprint.New(), fprint.New()
		for _, i := range r.Perm(len(l)) {
			add(t, other, l[i])
		}
		for _, i := range r.Perm(len(l)) {
			p := pair{r.term(4, true), r.Intn(40)}
			add(t, third, p, l[i], l[len(l)-1-i])
			deletes(t, third, p, l[len(l)-1-i])
		}
		for range 60 {
			u := r.term(4, true)
			for _, n := range []*fprint.Index{other, third} {
				has(t, n, len(l))
				unifies(t, n, u, one.Unify(u)...)
				general(t, n, u, one.General(u)...)
				instances(t, n, u, one.Instances(u)...)
			}
		}
	}
}

// TestDelsOfAll: in any order they leave nothing, and each takes just its own (P18.4).
func TestDelsOfAll(t *testing.T) {
	r := thrower{rand.New(rand.NewSource(185))}
	for round := range 60 {
		var l []pair
		n := fprint.New()
		for range 60 {
			l = append(l, pair{r.term(4, round%2 == 0), r.Intn(40)})
		}
		l = append(l, l[:20]...)
		add(t, n, l...)
		var left list
		for _, p := range l {
			left.add(p)
		}
		for k, i := range r.Perm(len(l)) {
			deletes(t, n, l[i])
			left.del(l[i])
			has(t, n, len(l)-1-k)
			left.asks(t, n, l[i].t)
			left.asks(t, n, x(0))
		}
		for _, p := range l {
			empty(t, n, p.t)
		}
		misses(t, n, l...)
	}
}
