package match_test

import (
	"fmt"
	"math/rand"
	"testing"

	"syllogism/api"
	"syllogism/match"
)

// asked calls Term, and wants the answer, how many are bound then, and what Subst tells.
func asked(t *testing.T, m *match.Matcher, pattern, u api.Term, ok bool, mark int, s api.Subst) {
	t.Helper()
	if got := m.Term(pattern, u); got != ok {
		t.Error(show(pattern), show(u), got)
	}
	stands(t, m, mark, s)
}

func stands(t *testing.T, m *match.Matcher, mark int, s api.Subst) {
	t.Helper()
	if m.Mark() != mark || showSubst(m.Subst()) != showSubst(s) {
		t.Error("bound:", m.Mark(), showSubst(m.Subst()), "want", mark, showSubst(s))
	}
}

func TestNew(t *testing.T) {
	m, other := match.New(), match.New()
	stands(t, m, 0, nil)
	asked(t, m, x(0), of(a), true, 1, binds(bind(0, of(a))))
	stands(t, other, 0, nil)
	asked(t, other, x(0), of(b), true, 1, binds(bind(0, of(b))))
	stands(t, m, 1, binds(bind(0, of(a))))
}

func TestBoundToItself(t *testing.T) {
	m := match.New()
	asked(t, m, x(3), x(3), true, 1, nil)
	asked(t, m, x(3), of(a), false, 1, nil)
	asked(t, m, x(3), x(0), false, 1, nil)
	asked(t, m, of(f, x(0), x(3)), of(f, of(a), of(b)), false, 1, nil)
	asked(t, m, x(3), x(3), true, 1, nil)
	asked(t, m, of(f, x(0), x(3)), of(f, x(3), x(3)), true, 2, binds(bind(0, x(3))))
	asked(t, m, of(f, x(1), x(0)), of(f, x(1), x(3)), true, 3, binds(bind(0, x(3))))
	m.Back(1)
	stands(t, m, 1, nil)
	asked(t, m, x(3), of(a), false, 1, nil)
	m.Back(0)
	asked(t, m, x(3), of(a), true, 1, binds(bind(3, of(a))))
	asked(t, m, x(3), x(3), false, 1, binds(bind(3, of(a))))
}

func TestUnderWhatIsBound(t *testing.T) {
	m := match.New()
	one := binds(bind(0, of(g, x(5))))
	asked(t, m, x(0), of(g, x(5)), true, 1, one)
	asked(t, m, of(f, x(0), x(0)), of(f, of(g, x(5)), of(g, x(6))), false, 1, one)
	asked(t, m, of(f, x(0), x(0)), of(f, of(g, x(5)), of(g, x(5))), true, 1, one)
	asked(t, m, x(5), of(a), true, 2, append(one, bind(5, of(a))))
	asked(t, m, x(0), of(g, of(a)), false, 2, append(one, bind(5, of(a))))
	asked(t, m, x(0), of(g, x(5)), true, 2, append(one, bind(5, of(a))))
	asked(t, m, of(g, x(5)), x(0), false, 2, append(one, bind(5, of(a))))
	asked(t, m, of(f, x(4), x(5)), of(f, x(0), of(a)), true, 3, binds(one[0], bind(4, x(0)), bind(5, of(a))))
}

// TestFailsLate: what was bound ahead of the misfit is bound no more, and what was bound before stays.
func TestFailsLate(t *testing.T) {
	m := match.New()
	pattern := of(h, x(0), of(f, x(1), x(2)), x(7), of(a))
	asked(t, m, pattern, of(h, of(a), of(f, of(b), of(a)), x(7), of(b)), false, 0, nil)
	for v := range 8 {
		asked(t, m, x(v), of(g, of(g, x(v))), true, 1, binds(bind(v, of(g, of(g, x(v))))))
		m.Back(0)
	}
	first := binds(bind(1, of(b)))
	asked(t, m, x(1), of(b), true, 1, first)
	asked(t, m, pattern, of(h, of(a), of(f, of(b), of(a)), x(7), of(b)), false, 1, first)
	asked(t, m, pattern, of(h, of(a), of(f, of(b), of(a)), x(7), x(0)), false, 1, first)
	asked(t, m, pattern, of(h, of(a), of(f, of(a), of(a)), x(7), of(a)), false, 1, first)
	asked(t, m, of(h, pattern, x(0)), of(h, of(h, of(a), of(f, of(b), of(a)), x(7), of(a)), of(b)), false, 1, first)
	asked(t, m, pattern, of(h, of(a), of(f, of(b), of(g, x(2))), x(7), of(a)), true, 4, binds(bind(0, of(a)), bind(1, of(b)), bind(2, of(g, x(2)))))
}

// TestBack: behind each number what was bound first is bound still, the rest is not, and can be bound again.
func TestBack(t *testing.T) {
	order := []int{5, 2, 9, 0, 7}
	pattern := of(h, x(5), of(f, x(2), x(5)), of(g, of(g, x(9))), x(2), x(0), x(7))
	value := func(v int) api.Term { return of(g, x(v+1)) }
	u := of(h, value(5), of(f, value(2), value(5)), of(g, of(g, value(9))), value(2), x(0), value(7))
	for mark := -3; mark <= 8; mark++ {
		m, n := match.New(), naive{}
		if !m.Term(pattern, u) || !n.term(pattern, u) || m.Mark() != 5 {
			t.Fatal("no match")
		}
		m.Back(mark)
		n.back(mark)
		alike(t, m, n)
		for i, v := range order {
			free := i >= mark && mark >= 0
			if got := m.Term(x(v), of(b)); got != free || got != n.term(x(v), of(b)) {
				t.Error(mark, v, got)
			}
			alike(t, m, n)
		}
	}
}

func TestBackAndAgain(t *testing.T) {
	m := match.New()
	asked(t, m, of(f, x(0), x(1)), of(f, of(a), of(b)), true, 2, binds(bind(0, of(a)), bind(1, of(b))))
	m.Back(1)
	stands(t, m, 1, binds(bind(0, of(a))))
	m.Back(1)
	m.Back(2)
	stands(t, m, 1, binds(bind(0, of(a))))
	asked(t, m, of(f, x(2), x(1)), of(f, x(2), x(2)), true, 3, binds(bind(0, of(a)), bind(1, x(2))))
	asked(t, m, x(0), of(b), false, 3, binds(bind(0, of(a)), bind(1, x(2))))
	m.Back(0)
	m.Back(0)
	stands(t, m, 0, nil)
	asked(t, m, of(f, x(1), x(0)), of(f, of(b), of(a)), true, 2, binds(bind(0, of(a)), bind(1, of(b))))
	m.Back(1)
	stands(t, m, 1, binds(bind(1, of(b))))
}

// smallLits is literals of all kinds, $true on either side among them.
func smallLits() []api.Lit {
	var l []api.Lit
	sides := []api.Term{of(0), x(0), x(1), of(a), of(f, x(0), x(1)), of(f, of(a), x(0)), of(g, x(1)), of(0, x(0)), x(2, of(a))}
	for _, left := range sides {
		for _, right := range sides {
			l = append(l, api.Lit{L: left, R: right}, api.Lit{Neg: true, L: left, R: right})
		}
	}
	return l
}

func TestAllSmallLits(t *testing.T) {
	for _, p := range smallLits() {
		for _, l := range smallLits() {
			for _, turned := range []bool{false, true} {
				m, n := match.New(), naive{}
				m.Term(x(1), of(g, x(1)))
				n.term(x(1), of(g, x(1)))
				if got, want := m.Lit(p, l, turned), n.lit(p, l, turned); got != want {
					t.Fatal(showLit(p), showLit(l), turned, got)
				}
				alike(t, m, n)
			}
		}
	}
}

func TestLit(t *testing.T) {
	atom := func(u api.Term) api.Lit { return api.Lit{L: u, R: of(0)} }
	turn := func(l api.Lit) api.Lit { return api.Lit{Neg: l.Neg, L: l.R, R: l.L} }
	not := func(l api.Lit) api.Lit { return api.Lit{Neg: true, L: l.L, R: l.R} }
	eq := func(l, r api.Term) api.Lit { return api.Lit{L: l, R: r} }
	for _, c := range []struct {
		p, l   api.Lit
		turned bool
		s      api.Subst
		ok     bool
	}{
		{eq(x(0), x(1)), eq(of(a), of(b)), false, binds(bind(0, of(a)), bind(1, of(b))), true},
		{eq(x(0), x(1)), eq(of(a), of(b)), true, binds(bind(0, of(b)), bind(1, of(a))), true},
		{eq(x(0), of(g, x(0))), eq(of(g, of(a)), of(a)), true, binds(bind(0, of(a))), true},
		{eq(x(0), of(g, x(0))), eq(of(g, of(a)), of(a)), false, nil, false},
		{eq(x(0), of(g, x(0))), eq(of(a), of(g, of(b))), false, nil, false},
		{eq(x(0), of(g, x(0))), eq(of(g, of(b)), of(a)), true, nil, false},
		{eq(of(a), x(0)), eq(of(b), of(a)), false, nil, false},
		{not(eq(x(0), x(1))), eq(of(a), of(b)), false, nil, false},
		{eq(x(0), x(1)), not(eq(of(a), of(b))), false, nil, false},
		{not(eq(x(0), x(1))), not(eq(of(a), x(0))), false, binds(bind(0, of(a)), bind(1, x(0))), true},
		{atom(of(g, x(0))), atom(of(g, of(a))), false, binds(bind(0, of(a))), true},
		{atom(of(g, x(0))), atom(of(g, of(a))), true, nil, false},
		{atom(of(g, x(0))), turn(atom(of(g, of(a)))), true, binds(bind(0, of(a))), true},
		{atom(of(g, x(0))), turn(atom(of(g, of(a)))), false, nil, false},
		{turn(atom(of(g, x(0)))), turn(atom(of(g, of(a)))), false, binds(bind(0, of(a))), true},
		{turn(atom(of(g, x(0)))), atom(of(g, of(a))), true, binds(bind(0, of(a))), true},
		{eq(x(0), x(1)), atom(of(g, of(a))), false, nil, false},
		{eq(x(0), x(1)), atom(of(g, of(a))), true, nil, false},
		{eq(x(0), x(1)), turn(atom(of(g, of(a)))), false, nil, false},
		{eq(x(0), x(1)), turn(atom(of(g, of(a)))), true, nil, false},
		{atom(x(0)), eq(of(a), of(b)), false, nil, false},
		{turn(atom(x(0))), eq(of(a), of(b)), false, nil, false},
		{atom(x(0)), atom(of(g, of(a))), false, binds(bind(0, of(g, of(a)))), true},
		{atom(x(0)), atom(of(g, of(a))), true, nil, false},
		{atom(of(0)), atom(of(0)), false, nil, true},
		{atom(of(0)), atom(of(0)), true, nil, true},
		{atom(of(0)), atom(of(a)), false, nil, false},
		{atom(x(0)), atom(of(0)), true, binds(bind(0, of(0))), true},
		{not(atom(of(g, x(0)))), atom(of(g, of(a))), false, nil, false},
		{not(atom(of(g, x(0)))), not(atom(of(g, x(1)))), false, binds(bind(0, x(1))), true},
	} {
		m, n := match.New(), naive{}
		if ok := m.Lit(c.p, c.l, c.turned); ok != c.ok || ok != n.lit(c.p, c.l, c.turned) || showSubst(m.Subst()) != showSubst(c.s) {
			t.Error(showLit(c.p), showLit(c.l), c.turned, ok, showSubst(m.Subst()))
		}
		alike(t, m, n)
	}
}

// TestLitFailsLate: at the second side, either way; then neither side's variables are bound.
func TestLitFailsLate(t *testing.T) {
	m := match.New()
	asked(t, m, x(4), of(a), true, 1, binds(bind(4, of(a))))
	p := api.Lit{L: of(f, x(0), x(1)), R: of(f, x(2), of(f, x(4), x(0)))}
	l := api.Lit{L: of(f, of(a), of(b)), R: of(f, x(2), of(f, of(a), of(b)))}
	for _, turned := range []bool{false, true} {
		if turned {
			l.L, l.R = l.R, l.L
		}
		if m.Lit(p, l, turned) {
			t.Error(turned)
		}
		stands(t, m, 1, binds(bind(4, of(a))))
		for v := range 3 {
			asked(t, m, x(v), of(g, x(7)), true, 2, binds(bind(v, of(g, x(7))), bind(4, of(a))))
			m.Back(1)
		}
	}
	p.R = of(f, x(2), of(f, x(4), x(1)))
	if !m.Lit(p, l, true) {
		t.Error("no match")
	}
	stands(t, m, 4, binds(bind(0, of(a)), bind(1, of(b)), bind(4, of(a))))
	m.Back(2)
	stands(t, m, 2, binds(bind(0, of(a)), bind(4, of(a))))
}

// TestManyCalls holds long rows of calls on one matcher against the naive one.
func TestManyCalls(t *testing.T) {
	r := rand.New(rand.NewSource(6))
	terms := append(smallTerms(), x(3), of(g, x(3)), of(f, x(3), x(1)), x(0, of(a)), of(f, of(a), x(1, x(0))), of(f, of(f, x(2), x(3)), x(0)))
	lits := smallLits()
	for range 3000 {
		m, n := match.New(), naive{}
		log := ""
		for range 12 {
			var got, want bool
			switch r.Intn(4) {
			case 0:
				mark := r.Intn(8) - 2
				log += fmt.Sprint(" back ", mark)
				m.Back(mark)
				n.back(mark)
			case 1:
				p, l, turned := lits[r.Intn(len(lits))], lits[r.Intn(len(lits))], r.Intn(2) == 0
				log += fmt.Sprint(" lit ", showLit(p), showLit(l), turned)
				got, want = m.Lit(p, l, turned), n.lit(p, l, turned)
			default:
				p, u := terms[r.Intn(len(terms))], terms[r.Intn(len(terms))]
				log += fmt.Sprint(" term ", show(p), show(u))
				got, want = m.Term(p, u), n.term(p, u)
			}
			if got != want {
				t.Fatal(log, got, want)
			}
			alike(t, m, n)
		}
	}
}
