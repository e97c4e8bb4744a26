package fprint_test

import (
	"math"
	"slices"
	"testing"

	"syllogism/api"
	"syllogism/fprint"
)

func TestExamples(t *testing.T) {
	n := index(t, numbered(of(f, x(0), of(a)), of(f, of(a), x(0)), x(0), of(a))...)
	unifies(t, n, of(f, of(a), of(a)), 1, 2, 3)
	unifies(t, n, of(a), 3, 4)
	unifies(t, n, x(5), 1, 2, 3, 4)
	general(t, n, of(f, of(a), of(a)), 1, 2, 3)
	general(t, n, of(f, x(0), x(1)), 3)
	general(t, n, of(a), 3, 4)
	instances(t, n, of(f, x(0), x(1)), 1, 2)
	instances(t, n, x(1), 1, 2, 3, 4)
	instances(t, n, of(a), 4)
	has(t, n, 4)
}

func TestNothingIn(t *testing.T) {
	n := fprint.New()
	empty(t, n, strangeTerms()...)
	misses(t, n, pair{of(a), 0}, pair{of(a), 1}, pair{x(0), 0}, pair{x(0), -1}, pair{of(f, x(0), of(a)), math.MaxInt}, pair{of(a), math.MinInt})
	if m := fprint.New(); m == nil || m == n {
		t.Error("New")
	}
}

// TestIdsRise: each once, whatever order they came in, from 0 to the greatest.
func TestIdsRise(t *testing.T) {
	ids := []int{7, 0, math.MaxInt, 3, 7, 1 << 40, 2, 3, 0, math.MaxInt - 1}
	n := fprint.New()
	for i, id := range ids {
		add(t, n, pair{of(f, of(a), of(h, of(10+i))), id})
	}
	want := []int{0, 2, 3, 7, 1 << 40, math.MaxInt - 1, math.MaxInt}
	unifies(t, n, x(0), want...)
	instances(t, n, x(3), want...)
	instances(t, n, of(f, x(0), x(0)), want...)
	unifies(t, n, of(f, x(0), of(h, x(1))), want...)
	unifies(t, n, of(f, x(0), of(h, of(12))), math.MaxInt)
	general(t, n, of(f, of(a), of(h, of(10))), 7)
	general(t, n, of(f, of(a), of(h, of(11))), 0)
	has(t, n, len(ids))
}

// TestWrongIds: none is in with one that is below 0, and it is no fault to ask for it.
func TestWrongIds(t *testing.T) {
	n := index(t, pair{of(a), 0}, pair{x(0), 1})
	for _, id := range []int{-1, -2, -1000, math.MinInt, math.MinInt + 1} {
		for _, u := range []api.Term{of(a), x(0), x(0, of(a)), of(f), {}} {
			if e := n.Add(u, id); e != api.ErrArg {
				t.Error("Add", show(u), id, e)
			}
			misses(t, n, pair{u, id})
		}
	}
	has(t, n, 2)
	unifies(t, n, x(0), 0, 1)
	general(t, n, of(a), 0, 1)
	instances(t, n, of(a), 0)
	m := fprint.New()
	if e := m.Add(of(a), -1); e != api.ErrArg {
		t.Error(e)
	}
	empty(t, m)
}

// TestSameTermSeveralIds: each id is in by itself.
func TestSameTermSeveralIds(t *testing.T) {
	u := of(f, x(0), of(a))
	n := index(t, pair{u, 5}, pair{u, 0}, pair{u, math.MaxInt}, pair{u, 9})
	has(t, n, 4)
	all(t, n, u, 0, 5, 9, math.MaxInt)
	misses(t, n, pair{u, 1}, pair{u, 4}, pair{u, 6}, pair{u, math.MaxInt - 1})
	deletes(t, n, pair{u, 5})
	all(t, n, u, 0, 9, math.MaxInt)
	misses(t, n, pair{u, 5})
	deletes(t, n, pair{u, math.MaxInt}, pair{u, 0})
	all(t, n, u, 9)
	has(t, n, 1)
	deletes(t, n, pair{u, 9})
	empty(t, n, u)
}

// TestSeveralTermsOneId: the id is told as long as one of them is in that may.
func TestSeveralTermsOneId(t *testing.T) {
	one, two, three := of(f, x(0), of(a)), of(a), of(f, of(b), of(a))
	n := index(t, pair{one, 3}, pair{two, 3}, pair{three, 3}, pair{three, 4})
	has(t, n, 4)
	unifies(t, n, x(0), 3, 4)
	unifies(t, n, of(f, of(b), x(0)), 3, 4)
	unifies(t, n, of(f, of(a), x(0)), 3)
	deletes(t, n, pair{one, 3})
	unifies(t, n, x(0), 3, 4)
	unifies(t, n, of(f, of(b), x(0)), 3, 4)
	unifies(t, n, of(f, of(a), x(0)))
	deletes(t, n, pair{three, 3})
	unifies(t, n, of(f, of(b), x(0)), 4)
	unifies(t, n, x(0), 3, 4)
	misses(t, n, pair{one, 3}, pair{three, 3}, pair{two, 4})
	deletes(t, n, pair{two, 3})
	unifies(t, n, x(0), 4)
	has(t, n, 1)
}

// TestSeveralTermsOnePrint: which of them was in with which id is told, though their prints tell them not apart.
func TestSeveralTermsOnePrint(t *testing.T) {
	terms := []api.Term{of(f, x(0), x(0)), of(f, x(0), x(1)), of(f, x(1), x(0)), of(f, x(3), x(0)), of(f, x(300), x(-1+math.MaxInt))}
	n := fprint.New()
	for id, u := range terms {
		add(t, n, pair{u, 2}, pair{u, 10 + id})
	}
	all(t, n, of(f, x(8), x(9)), 2, 10, 11, 12, 13, 14)
	has(t, n, 10)
	for i, u := range terms {
		for id := range terms {
			if id != i {
				misses(t, n, pair{u, 10 + id})
			}
		}
		deletes(t, n, pair{u, 2})
		misses(t, n, pair{u, 2})
		want := []int{2, 10, 11, 12, 13, 14}
		if i == len(terms)-1 {
			want = want[1:]
		}
		all(t, n, of(f, x(8), x(9)), want...)
	}
	has(t, n, 5)
}

// TestEachAddCounts: the same term with the same id is in as often as it was added.
func TestEachAddCounts(t *testing.T) {
	p := pair{of(f, of(a), x(1)), 6}
	n := fprint.New()
	for i := range 5 {
		add(t, n, p)
		has(t, n, i+1)
		all(t, n, p.t, 6)
	}
	for i := range 5 {
		all(t, n, p.t, 6)
		deletes(t, n, p)
		has(t, n, 4-i)
	}
	empty(t, n, p.t)
	misses(t, n, p)
	has(t, n, 0)
	add(t, n, p, p)
	deletes(t, n, p)
	all(t, n, p.t, 6)
	deletes(t, n, p)
	misses(t, n, p)
	empty(t, n, p.t)
}

// TestDelOfWhatIsNotIn: a variant, an instance, what has the same print, another id, what was in.
func TestDelOfWhatIsNotIn(t *testing.T) {
	u := of(f, x(0), of(g, of(g, of(a))))
	n := index(t, pair{u, 1}, pair{of(a), 2})
	misses(t, n,
		pair{u, 2}, pair{u, 0}, pair{of(a), 1}, pair{of(b), 2}, pair{x(0), 1}, pair{of(f), 1},
		pair{of(f, x(1), of(g, of(g, of(a)))), 1}, pair{of(f, of(a), of(g, of(g, of(a)))), 1},
		pair{of(f, x(0), of(g, of(g, of(b)))), 1}, pair{of(f, x(0), of(g, of(g, x(0)))), 1}, pair{of(f, x(0), of(g, of(g))), 1},
		pair{of(f, x(0), of(g, of(g, of(a), of(a)))), 1}, pair{of(f, x(0), of(g, of(g, of(a))), of(a)), 1}, pair{of(f, x(0, of(a)), of(g, of(g, of(a)))), 1},
		pair{of(f, x(0), of(g, of(g, of(a, of(a))))), 1}, pair{of(a, of(a)), 2}, pair{of(a, x(0)), 2})
	all(t, n, u, 1)
	all(t, n, of(a), 2)
	deletes(t, n, pair{u, 1})
	misses(t, n, pair{u, 1})
	all(t, n, u)
	all(t, n, of(a), 2)
}

// TestArgumentsOfVariablesCount: a term is the same only with them.
func TestArgumentsOfVariablesCount(t *testing.T) {
	terms := []api.Term{x(0), x(0, of(a)), x(0, of(b)), x(0, of(a), of(a)), x(0, x(0)), x(0, x(0, of(a))), x(1, of(a)), of(0, of(a))}
	for i, u := range terms {
		n := index(t, pair{u, 0})
		for j, other := range terms {
			if i != j {
				misses(t, n, pair{other, 0})
			}
		}
		deletes(t, n, pair{u, 0})
		empty(t, n, u)
	}
}

// TestNumbersThatRunTogether: terms whose numbers and numbers of arguments make the same row of digits.
func TestNumbersThatRunTogether(t *testing.T) {
	twelve := of(h, slices.Repeat([]api.Term{of(1)}, 12)...)
	threes := slices.Repeat([]api.Term{of(3)}, 10)
	terms := []api.Term{
		of(1, of(11)), of(11, of(1)), of(11, of(11)), of(111), of(1, of(1), of(1)), of(1, of(1, of(1))), of(10), of(1, of(0)), of(0, of(1)), of(100), of(1, of(0), of(0)), of(1, of(0, of(0))), of(0, of(1, of(0))), of(0, of(1), of(0)),
		x(0), of(1), x(1), of(2), of(0), x(10), of(h, of(12)), twelve, of(h, of(1), of(2)), of(51, of(2)), of(5, of(12, of(1))),
		of(g, of(f, of(a)), of(b)), of(g, of(f, of(a), of(b))), of(g, of(f), of(a), of(b)), of(g, of(f, of(a, of(b)))), of(g, of(f), of(a, of(b))),
		of(1, of(12, append([]api.Term{of(2)}, threes...)...)), of(1, append([]api.Term{of(2, of(12))}, threes...)...),
		of(7, of(11), of(1, threes...)), of(7, of(1, append([]api.Term{of(11)}, threes[:9]...)...), of(3)),
		nest(3, of(5)), nest(3, of(5+1<<32)), nest(3, of(5+1<<16)), nest(3, of(5+1<<8)), nest(3, of(math.MaxInt)), nest(3, x(0)), nest(3, x(1<<32)), nest(3, x(1<<31-1)), nest(3, api.Term{Fun: math.MinInt}), nest(3, x(math.MaxInt-1)),
	}
	for i, u := range terms {
		n := index(t, pair{u, 12})
		for j, other := range terms {
			if i != j {
				misses(t, n, pair{other, 12})
			}
			misses(t, n, pair{other, 1}, pair{other, 2}, pair{other, 121})
		}
		deletes(t, n, pair{u, 12})
	}
}

// TestAllThenAgain: behind Del of all it is as new.
func TestAllThenAgain(t *testing.T) {
	l := numbered(append(smallTerms(), strangeTerms()...)...)
	n := fprint.New()
	for range 3 {
		add(t, n, l...)
		has(t, n, len(l))
		var want []int
		for _, p := range l {
			want = append(want, p.id)
		}
		unifies(t, n, x(0), want...)
		instances(t, n, x(0), want...)
		deletes(t, n, l...)
		empty(t, n, smallTerms()...)
		misses(t, n, l...)
	}
}

// TestIndexesApart: what is in one is not in another one.
func TestIndexesApart(t *testing.T) {
	one, two := index(t, pair{of(a), 1}), index(t, pair{of(b), 1}, pair{of(a), 2})
	unifies(t, one, x(0), 1)
	unifies(t, two, x(0), 1, 2)
	misses(t, one, pair{of(b), 1}, pair{of(a), 2})
	misses(t, two, pair{of(a), 1})
	deletes(t, one, pair{of(a), 1})
	empty(t, one)
	unifies(t, two, of(a), 2)
	has(t, two, 2)
}

func TestMay(t *testing.T) {
	for _, l := range []struct {
		one, other api.Term
		want       bool
	}{
		{of(a), of(a), true}, {of(a), of(b), false}, {x(0), of(a), true}, {x(0), x(0), true}, {x(0), x(1), true}, {x(0), of(f, x(0), x(0)), true},
		{of(f, of(a), of(a)), of(f, x(0), x(0)), true}, {of(f, of(a), of(b)), of(f, x(0), x(0)), true}, {of(f, of(a), of(b)), of(f, of(b), x(0)), false},
		{of(g, x(0)), x(0), true}, {of(g, x(0)), of(g, of(g, x(0))), true}, {of(f, x(0), of(a)), of(f, of(b), of(b)), false}, {of(g, of(a)), of(f, of(a), of(a)), false},
		{nest(2, of(a)), nest(2, of(b)), false}, {nest(3, of(a)), nest(3, of(b)), true}, {nest(2, x(0)), nest(3, of(b)), true}, {of(f, nest(1, of(a)), of(a)), of(f, of(a), of(a)), false},
		{of(0), of(0), true}, {of(0), x(0), true}, {of(0), of(1), false}, {of(f, of(0), of(0)), of(f, x(0), of(1)), false}, {api.Term{}, of(0), true},
		{x(95), of(a), true}, {x(95), x(1 << 40), true}, {api.Term{Fun: math.MinInt}, of(a), true}, {of(math.MaxInt), of(math.MaxInt), true}, {of(math.MaxInt), of(math.MaxInt - 1), false},
	} {
		for _, got := range []bool{fprint.May(l.one, l.other), fprint.May(l.other, l.one)} {
			if got != l.want {
				t.Error(show(l.one), show(l.other), got)
			}
		}
	}
}
