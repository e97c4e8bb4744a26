package fprint_test

import (
	"fmt"
	"math"
	"slices"
	"testing"

	"syllogism/api"
	"syllogism/fprint"
)

const (
	a = 1
	f = 2
	g = 3
	b = 4
	h = 5 // of as many arguments as are wanted
)

func of(n int, args ...api.Term) api.Term { return api.Term{Fun: n, Args: args} }
func x(k int, args ...api.Term) api.Term  { return api.Term{Fun: -1 - k, Args: args} }

// show writes a term by its numbers, so that two are the same just if what is shown is.
func show(t api.Term) string {
	s := fmt.Sprint(t.Fun)
	if t.Fun < 0 && t.Fun > math.MinInt32 {
		s = fmt.Sprint("X", -1-t.Fun)
	}
	for i, c := range t.Args {
		s += map[bool]string{true: "(", false: ","}[i == 0] + show(c)
	}
	if len(t.Args) > 0 {
		s += ")"
	}
	return s
}

// nest is g so many times around a term.
func nest(n int, t api.Term) api.Term {
	for range n {
		t = of(g, t)
	}
	return t
}

// pair is a term and the id that it is added with.
type pair struct {
	t  api.Term
	id int
}

// numbered gives terms the ids 1, 2 and so on.
func numbered(terms ...api.Term) []pair {
	var l []pair
	for i, t := range terms {
		l = append(l, pair{t, i + 1})
	}
	return l
}

func index(t testing.TB, l ...pair) *fprint.Index {
	t.Helper()
	n := fprint.New()
	add(t, n, l...)
	return n
}

func add(t testing.TB, n *fprint.Index, l ...pair) {
	t.Helper()
	for _, p := range l {
		if e := n.Add(p.t, p.id); e != api.OK {
			t.Fatal("Add", show(p.t), p.id, e)
		}
	}
}

// deletes wants that they are in it.
func deletes(t testing.TB, n *fprint.Index, l ...pair) {
	t.Helper()
	for _, p := range l {
		if !n.Del(p.t, p.id) {
			t.Error("Del", show(p.t), p.id, "is not in")
		}
	}
}

// misses wants that they are not in it, and that asking changes nothing in how many are.
func misses(t testing.TB, n *fprint.Index, l ...pair) {
	t.Helper()
	before := n.Len()
	for _, p := range l {
		if n.Del(p.t, p.id) {
			t.Error("Del", show(p.t), p.id, "is in")
		}
	}
	has(t, n, before)
}

func has(t testing.TB, n *fprint.Index, want int) {
	t.Helper()
	if got := n.Len(); got != want {
		t.Error("Len", got, "want", want)
	}
}

func tells(t testing.TB, what string, u api.Term, got []int, want ...int) {
	t.Helper()
	if !slices.Equal(got, want) {
		t.Errorf("%s %.200s: %.300v, want %.300v", what, show(u), got, want)
	}
}

func unifies(t testing.TB, n *fprint.Index, u api.Term, want ...int) {
	t.Helper()
	tells(t, "Unify", u, n.Unify(u), want...)
}

func general(t testing.TB, n *fprint.Index, u api.Term, want ...int) {
	t.Helper()
	tells(t, "General", u, n.General(u), want...)
}

func instances(t testing.TB, n *fprint.Index, u api.Term, want ...int) {
	t.Helper()
	tells(t, "Instances", u, n.Instances(u), want...)
}

// all wants the same of all three, as it is where the index has nothing that tells them apart.
func all(t testing.TB, n *fprint.Index, u api.Term, want ...int) {
	t.Helper()
	unifies(t, n, u, want...)
	general(t, n, u, want...)
	instances(t, n, u, want...)
}

// empty wants that nothing is told of any of these, nor of a variable, with which all would be.
func empty(t testing.TB, n *fprint.Index, terms ...api.Term) {
	t.Helper()
	has(t, n, 0)
	for _, u := range append(terms, x(0), x(1), of(a), of(f, x(0), x(1)), x(0, of(a))) {
		all(t, n, u)
	}
}

// choices is all lists of n out of these.
func choices[E any](n int, l []E) [][]E {
	out := [][]E{nil}
	for range n {
		var longer [][]E
		for _, c := range out {
			for _, y := range l {
				longer = append(longer, append(slices.Clip(c), y))
			}
		}
		out = longer
	}
	return out
}

// smallTerms is those of a, b, f with two arguments, g with one and two variables, up to depth three where they are not too many.
func smallTerms() []api.Term {
	one := []api.Term{of(a), of(b), x(0), x(1)}
	var two []api.Term
	for _, u := range one {
		two = append(two, of(g, u))
	}
	for _, l := range choices(2, one) {
		two = append(two, of(f, l...))
	}
	out := append(slices.Clone(one), two...)
	for _, u := range two {
		out = append(out, of(g, u), of(f, u, of(a)), of(f, x(0), u), of(f, u, x(1)), of(f, u, u))
	}
	return out
}

// strangeTerms may not be: symbols with other numbers of arguments, variables with arguments.
func strangeTerms() []api.Term {
	one := []api.Term{of(a), x(0), of(g, of(a)), of(g), of(f, of(a)), x(0, of(a)), x(1, x(0), of(b))}
	out := slices.Clone(one)
	for n := range 4 {
		for _, l := range choices(n, one[:min(7, 10-2*n)]) {
			out = append(out, of(f, l...))
		}
	}
	for _, u := range one {
		out = append(out, of(g, u), of(g, of(h, u)), x(0, u), of(h, u, u, u, u), of(0, of(a), u), of(f, x(2, u), u))
	}
	return append(out, of(math.MaxInt), of(math.MaxInt, x(0)), api.Term{Fun: math.MinInt}, api.Term{Fun: math.MinInt, Args: []api.Term{of(a)}}, of(f, api.Term{Fun: math.MinInt}))
}
