package clause_test

import (
	"math/rand"
	"slices"
	"testing"

	"syllogism/api"
	"syllogism/clause"
)

// pair is two clauses, and what is to be told of them.
type pair struct {
	c, d           api.Clause
	variant, alike bool
}

// holds wants it both ways round.
func holds(t *testing.T, l ...pair) {
	t.Helper()
	for _, w := range l {
		for _, turned := range []bool{false, true} {
			c, d := w.c, w.d
			if turned {
				c, d = d, c
			}
			if got := clause.Variant(c, d); got != w.variant {
				t.Errorf("%s and %s: variants %v", show(c), show(d), got)
			}
			if got := clause.Alike(c, d); got != w.alike {
				t.Errorf("%s and %s: alike %v", show(c), show(d), got)
			}
		}
	}
}

func TestVariantAndAlike(t *testing.T) {
	xy, xx := eq(x(0), x(1)), eq(x(0), x(0))
	px, py := atom(of(p, x(0))), atom(of(p, x(1)))
	holds(t,
		pair{nil, nil, true, true}, pair{nil, lits(), true, true}, pair{nil, lits(xy), false, false}, pair{lits(), lits(atom(of(q))), false, false},
		pair{lits(xy), lits(eq(x(1), x(0))), true, true}, pair{lits(xy), lits(eq(x(40), x(7))), true, true},
		pair{lits(xy), lits(xx), false, false}, pair{lits(xx), lits(xx), true, true}, pair{lits(xx), lits(eq(x(8), x(8))), true, true},
		pair{lits(xy), lits(ne(x(0), x(1))), false, false}, pair{lits(px), lits(deny(of(p, x(0)))), false, false},
		pair{lits(px), lits(atom(of(p, x(30)))), true, true}, pair{lits(px), lits(atom(of(p, of(a)))), false, false},
		pair{lits(atom(of(q))), lits(atom(of(q))), true, true}, pair{lits(atom(of(q))), lits(atom(of(q)), atom(of(q))), false, false},
		pair{lits(px, py), lits(px, px), false, false}, pair{lits(px, py), lits(py, px), true, true}, pair{lits(px, py), lits(px), false, false},
		pair{lits(px, deny(of(q))), lits(deny(of(q)), px), false, true}, pair{lits(px, deny(of(q))), lits(deny(of(q)), py), false, true},
		pair{lits(eq(x(0), of(a))), lits(eq(of(a), x(3))), false, true}, pair{lits(ne(x(0), of(a))), lits(ne(of(a), x(3))), false, true},
		pair{lits(eq(x(0), of(a))), lits(ne(of(a), x(3))), false, false}, pair{lits(eq(x(0), of(a))), lits(eq(of(b), x(0))), false, false},
		pair{lits(atom(of(r, x(0), x(1)))), lits(atom(of(r, x(1), x(0)))), true, true},
		pair{lits(atom(of(r, x(0), x(1)))), lits(atom(of(r, x(1), x(1)))), false, false},
		pair{lits(xy, px), lits(xy, py), false, true}, pair{lits(xy, px), lits(eq(x(1), x(0)), py), true, true},
		pair{lits(eq(of(f, x(0), x(1)), x(2)), px), lits(eq(of(f, x(2), x(0)), x(1)), atom(of(p, x(2)))), true, true},
		pair{lits(eq(of(f, x(0), x(1)), x(2)), px), lits(eq(of(f, x(2), x(0)), x(1)), atom(of(p, x(0)))), false, false},
		pair{lits(eq(of(f, x(0), x(1)), of(f, x(1), x(0))), px), lits(eq(of(f, x(0), x(1)), of(f, x(1), x(0))), py), false, true},
		pair{lits(eq(of(g, x(0)), of(f, x(1), x(0))), py), lits(eq(of(f, x(5), x(2)), of(g, x(2))), atom(of(p, x(5)))), false, true},
		pair{lits(eq(of(g, x(0)), of(f, x(1), x(0))), py), lits(eq(of(f, x(5), x(2)), of(g, x(2))), atom(of(p, x(2)))), false, false},
		pair{lits(eq(of(g, x(0)), of(f, x(1), x(0))), py), lits(atom(of(p, x(5))), eq(of(f, x(5), x(2)), of(g, x(2)))), false, true},
		// One literal fits two; what the first choice binds must be given back.
		pair{lits(px, eq(x(0), of(a))), lits(py, px, eq(x(1), of(a)))[1:], false, false},
		pair{lits(px, py, eq(x(1), of(a))), lits(px, py, eq(x(0), of(a))), false, true},
		pair{lits(px, py, ne(x(1), x(2))), lits(px, py, ne(x(2), x(0))), false, true},
		pair{lits(px, py, eq(of(f, x(0), x(1)), of(a)), eq(x(1), of(b))), lits(px, py, eq(x(0), of(b)), eq(of(a), of(f, x(1), x(0)))), false, true},
		pair{lits(px, py, eq(of(f, x(0), x(1)), of(a)), eq(x(1), of(b))), lits(px, py, eq(x(0), of(b)), eq(of(a), of(f, x(0), x(1)))), false, false},
		// No variable in common, some, all: each literal by itself is the other one renamed.
		pair{lits(px, atom(of(r, x(0), x(1)))), lits(px, atom(of(r, x(1), x(0)))), false, false},
		pair{lits(eq(x(0), x(1)), ne(x(0), x(1))), lits(eq(x(0), x(1)), ne(x(1), x(0))), false, true},
		pair{lits(eq(x(0), x(1)), eq(x(1), x(2))), lits(eq(x(0), x(1)), eq(x(2), x(1))), false, true},
		pair{lits(eq(x(0), x(1)), eq(x(1), x(2))), lits(eq(x(0), x(1)), eq(x(2), x(3))), false, false},
		pair{lits(eq(x(0), x(1)), eq(x(1), x(2)), eq(x(2), x(0))), lits(eq(x(0), x(1)), eq(x(1), x(2)), eq(x(2), x(3))), false, false},
	)
}

// TestOneWayAlone: what the first one matches, but not the other way round.
func TestOneWayAlone(t *testing.T) {
	holds(t,
		pair{lits(atom(of(p, x(0)))), lits(atom(of(p, of(a)))), false, false},
		pair{lits(atom(of(p, x(0)))), lits(atom(of(p, of(g, x(0))))), false, false},
		pair{lits(atom(of(r, x(0), x(1)))), lits(atom(of(r, x(3), x(3)))), false, false},
		pair{lits(atom(of(p, x(0))), atom(of(p, x(1)))), lits(atom(of(p, x(0))), atom(of(p, x(0)))), false, false},
		pair{lits(atom(of(p, x(0))), deny(of(r, x(0), x(1)))), lits(atom(of(p, x(0))), deny(of(r, x(0), x(0)))), false, false},
		pair{lits(eq(x(0), of(a)), ne(x(1), of(a))), lits(eq(x(0), of(a)), ne(x(0), of(a))), false, false},
		pair{lits(eq(of(f, x(0), x(1)), x(2))), lits(eq(of(f, x(0), x(1)), x(0))), false, false},
		pair{lits(eq(x(0), x(1))), lits(eq(x(0), of(a))), false, false})
}

// TestAtomsTurned: the search turns whatever literal it is at, and a matcher takes an atom for one whichever side tells it.
func TestAtomsTurned(t *testing.T) {
	px, qq, truth := atom(of(p, x(0))), deny(of(q)), eq(of(0), of(0))
	holds(t,
		pair{lits(px), lits(turn(px)), false, true}, pair{lits(qq), lits(turn(qq)), false, true}, pair{lits(qq), lits(atom(of(q))), false, false},
		pair{lits(px, qq), lits(turn(qq), px), false, true}, pair{lits(turn(px), turn(px)), lits(px, px), false, true},
		pair{lits(truth), lits(truth), true, true}, pair{lits(truth), lits(ne(of(0), of(0))), false, false},
		pair{lits(eq(x(0), of(0))), lits(eq(of(0), x(3))), false, true}, pair{lits(eq(x(0), of(0))), lits(truth), false, false},
		pair{lits(eq(x(0), of(0))), lits(eq(x(0), x(1))), false, false}, pair{lits(eq(x(0), of(0))), lits(eq(x(0), of(a))), false, false},
		pair{lits(eq(of(0, of(a)), of(b))), lits(eq(of(b), of(0, of(a)))), false, true},
		pair{lits(eq(of(0), of(p, of(0)))), lits(atom(of(p, of(0)))), false, true})
}

// turnings are a clause in each order, and in each of these with each choice of sides turned.
func turnings(c api.Clause) []api.Clause {
	if len(c) == 0 {
		return []api.Clause{nil}
	}
	var out []api.Clause
	for _, rest := range turnings(c[1:]) {
		for i := range len(c) {
			out = append(out, slices.Insert(slices.Clone(rest), i, c[0]))
			if c[0].R.Fun != 0 {
				out = append(out, slices.Insert(slices.Clone(rest), i, turn(c[0])))
			}
		}
	}
	return out
}

// TestTurnedAbout: a clause and the same turned about in any way are alike; they are variants seldom.
func TestTurnedAbout(t *testing.T) {
	for _, c := range []api.Clause{
		nil, {eq(x(0), x(1))}, {atom(of(q))}, {ne(of(a), of(g, x(2)))}, example(),
		{eq(x(0), x(1)), eq(x(0), x(1)), eq(x(1), x(2))},
		{atom(of(p, x(0))), deny(of(p, x(1))), atom(of(r, x(0), x(1))), eq(of(g, x(1)), x(0))},
		{eq(x(0), x(1)), ne(x(1), x(2)), eq(x(2), x(3)), eq(x(3), of(a)), ne(x(0), of(a))},
		{eq(x(0), x(1)), eq(x(1), x(2)), eq(x(2), x(3)), eq(x(3), x(4)), eq(x(4), x(0))},
		{eq(x(0), x(1)), eq(x(2), x(3)), eq(x(4), x(5)), eq(x(6), x(7)), eq(x(8), x(9))},
	} {
		l := turnings(c)
		want := 1
		for i, m := range c {
			want *= i + 1
			if m.R.Fun != 0 {
				want *= 2
			}
		}
		if len(l) != want {
			t.Fatal(show(c), len(l), want)
		}
		for i, d := range l {
			if !clause.Alike(c, d) || !clause.Alike(d, c) || !clause.Alike(d, l[(i*7+3)%len(l)]) {
				t.Fatal(show(c), show(d))
			}
			if i%5 == 0 {
				heldVariant(t, c, d)
			}
		}
	}
}

// TestMostLiterals: MaxLits are searched, one more is not, on whichever side.
func TestMostLiterals(t *testing.T) {
	for _, l := range []api.Lit{atom(of(q)), eq(x(0), of(a)), ne(x(0), x(0))} {
		full, over := many(api.MaxLits, l), many(api.MaxLits+1, l)
		holds(t,
			pair{full, full, true, true}, pair{full[1:], full, false, false}, pair{full, over, false, false}, pair{over, over, true, false},
			pair{nil, over, false, false}, pair{many(1000, l), many(1000, l), true, false}, pair{many(1000, l), full, false, false})
	}
	var c api.Clause
	for i := range api.MaxLits {
		c = append(c, eq(nest(i, x(i)), of(a)))
	}
	d := slices.Clone(c)
	slices.Reverse(d)
	holds(t, pair{c, d, false, true}, pair{append(c, atom(of(q))), append(d, atom(of(q))), false, false})
}

// knot is equations of two variables each, each of which fits each other one both ways round; and, behind them, an atom that tells which choices were right, and nothing ahead of it. Ahead are atoms that fit but their own, in an order.
func knot(equations int, ahead []int, told []int) api.Clause {
	var c api.Clause
	for _, n := range ahead {
		c = append(c, atom(of(p, nest(n, of(a)))))
	}
	t := of(b)
	for i := range equations {
		c = append(c, eq(x(2*i), x(2*i+1)))
	}
	for _, v := range slices.Backward(told) {
		t = of(f, x(v), t)
	}
	return append(c, atom(of(p, t)))
}

// untied is what is told of the knot when so many choices at each equation were wrong.
func untied(choices []int) []int {
	free := make([]int, len(choices))
	for i := range free {
		free[i] = i
	}
	var told []int
	for _, n := range choices {
		j := free[n/2]
		free = slices.Delete(free, n/2, n/2+1)
		told = append(told, 2*j+n%2, 2*j+1-n%2)
	}
	return told
}

func upTo(n int) []int {
	var l []int
	for i := range n {
		l = append(l, i)
	}
	return l
}

// TestGivenUp: the tries of a search are counted by hand. Behind all five equations it tries the atom 2 times; so behind four of them 2 (1 + 2) + 2 = 8 times, behind three 4 (1 + 8) + 2 = 38, behind two 6 (1 + 38) + 2 = 236, behind one 8 (1 + 236) + 2 = 1898, behind none 10 (1 + 1898) + 2 = 18992. A wrong choice costs itself and all behind it, a right one itself.
func TestGivenUp(t *testing.T) {
	const equations = 5
	for _, w := range []struct {
		choices, ahead []int // ahead: the order of the second one's atoms
		tries          int
	}{
		{[]int{0, 0, 0, 0, 0}, nil, 6},
		{[]int{0, 0, 0, 0, 1}, nil, 6 + 3},
		{[]int{0, 0, 0, 1, 0}, nil, 6 + 9},
		{[]int{0, 0, 1, 0, 0}, nil, 6 + 39},
		{[]int{0, 1, 0, 0, 0}, nil, 6 + 237},
		{[]int{1, 0, 0, 0, 0}, nil, 6 + 1899},
		{[]int{5, 2, 0, 2, 1}, nil, 9996},
		{[]int{5, 2, 0, 2, 1}, []int{0}, 9997},
		{[]int{5, 2, 0, 2, 1}, []int{0, 1}, 9998},
		{[]int{5, 2, 0, 2, 1}, []int{0, 1, 2}, 9999},
		{[]int{5, 2, 0, 2, 1}, []int{0, 1, 2, 3}, 10000},
		{[]int{5, 2, 0, 2, 1}, []int{1, 0}, 10000}, // the first one is tried with another, as it is and turned
		{[]int{5, 2, 0, 2, 1}, []int{0, 1, 2, 3, 4}, 10001},
		{[]int{5, 2, 0, 2, 1}, []int{0, 2, 1}, 10001},
		{[]int{5, 2, 0, 2, 1}, []int{1, 0, 2, 3}, 10002},
		{[]int{5, 2, 0, 2, 0}, []int{0, 1, 2}, 9996},
		{[]int{5, 2, 0, 2, 0}, []int{2, 0, 1}, 10000},
		{[]int{5, 2, 0, 2, 0}, []int{0, 2, 1, 3, 4}, 10000},
		{[]int{5, 2, 0, 2, 0}, []int{0, 2, 1, 3, 4, 5}, 10001},
		{[]int{5, 2, 0, 2, 0}, []int{0, 2, 1, 4, 3}, 10002},
		{[]int{5, 2, 0, 3, 0}, nil, 10002},
		{[]int{5, 2, 1, 0, 0}, nil, 10014},
		{[]int{6, 0, 0, 0, 0}, nil, 11400},
		{[]int{9, 7, 5, 3, 1}, nil, 18981},
	} {
		n := len(w.ahead)
		c, d := knot(equations, upTo(n), upTo(2*equations)), knot(equations, w.ahead, untied(w.choices))
		found, tries := heldAlike(t, c, d)
		if !found || tries != w.tries {
			t.Errorf("%v %v: %v in %d tries, not %d", w.choices, w.ahead, found, tries, w.tries)
		}
		if got := clause.Alike(c, d); got != (w.tries <= 10000) {
			t.Errorf("%v %v: %v in %d tries", w.choices, w.ahead, got, w.tries)
		}
	}
}

// TestGivenUpOneWay: the first one's literals are tried in order; so of two clauses it may be told but one way round.
func TestGivenUpOneWay(t *testing.T) {
	r := rand.New(rand.NewSource(13))
	ways := map[[2]bool]int{}
	near := 0
	for range 150 {
		n := 4 + r.Intn(4)
		c := knot(n, r.Perm(r.Intn(4)), upTo(2*n))
		d := shaken(r, renamed(r.Perm(2*n), c))
		if r.Intn(2) == 0 {
			d = append(d[1:], d[0])
		}
		_, one := heldAlike(t, c, d)
		_, two := heldAlike(t, d, c)
		ways[[2]bool{clause.Alike(c, d), clause.Alike(d, c)}]++
		for _, tries := range []int{one, two} {
			if tries > 5000 && tries < 20000 {
				near++
			}
		}
	}
	if len(ways) < 4 || near < 10 {
		t.Error(ways, near)
	}
}

// TestNothingIsFound: where no order fits, it ends.
func TestNothingIsFound(t *testing.T) {
	for n := 1; n <= 15; n++ {
		var c api.Clause
		for i := range n {
			c = append(c, eq(x(2*i), x(2*i+1)))
		}
		holds(t,
			pair{append(slices.Clone(c), atom(of(q))), append(slices.Clone(c), deny(of(q))), false, false},
			pair{append(slices.Clone(c), atom(of(q))), append(slices.Clone(c), atom(of(p, x(0)))), false, false},
			pair{append(slices.Clone(c), eq(x(40), x(40))), append(slices.Clone(c), eq(x(40), x(41))), false, false})
	}
}
