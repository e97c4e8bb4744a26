package unify_test

import (
	"testing"

	"syllogism/api"
	"syllogism/unify"
)

// spoil writes into all of a term, spare room included.
func spoil(t *api.Term) {
	t.Fun = 99
	full := t.Args[:cap(t.Args)]
	for i := range full {
		spoil(&full[i])
	}
}

func spoilSubst(s api.Subst) {
	full := s[:cap(s)]
	for i := range full {
		full[i].Var = 99
		spoil(&full[i].T)
	}
}

// roomy is a term with spare room behind all its arguments.
func roomy(t api.Term) api.Term {
	if len(t.Args) == 0 {
		return t
	}
	l := make([]api.Term, 0, len(t.Args)+2)
	for _, c := range t.Args {
		l = append(l, roomy(c))
	}
	copy(l[len(l):cap(l)], []api.Term{of(7, of(8)), of(9)})
	return api.Term{Fun: t.Fun, Args: l}
}

// whole shows pairs with the spare room behind them, and behind all arguments.
func whole(l []pair) string {
	var bare func(t api.Term) api.Term
	bare = func(t api.Term) api.Term {
		out := api.Term{Fun: t.Fun}
		for _, c := range t.Args[:cap(t.Args)] {
			out.Args = append(out.Args, bare(c))
		}
		return out
	}
	s := ""
	for _, p := range l[:cap(l)] {
		s += show(bare(p[0])) + show(bare(p[1]))
	}
	return s
}

// lists is where each list of arguments lies.
func lists(t *testing.T, seen map[*api.Term]bool, s api.Subst) {
	t.Helper()
	var look func(u api.Term)
	look = func(u api.Term) {
		full := u.Args[:cap(u.Args)]
		for i := range full {
			if seen[&full[i]] {
				t.Error("shared:", show(u))
			}
			seen[&full[i]] = true
			look(full[i])
		}
	}
	for _, b := range s {
		look(b.T)
	}
}

func TestNothingShared(t *testing.T) {
	inner := roomy(of(f, of(g, x(3)), of(f, of(a), x(2))))
	l := make([]pair, 0, 6)
	l = append(l, pair{x(0), roomy(of(f, x(1), x(1)))}, pair{x(1), inner}, pair{x(4), of(h, inner, inner)}, pair{of(f, x(5), x(6)), of(f, x(0), x(6))})
	l[:5][4] = pair{of(a), of(b)}
	before := whole(l)
	first, e := unified(t, l...)
	if e != api.OK || len(first) != 4 {
		t.Fatal(showSubst(first), e)
	}
	told := showSubst(first)
	seen := map[*api.Term]bool{}
	for range 3 {
		s, _ := unify.Pairs(l)
		lists(t, seen, s)
		if showSubst(s) != told {
			t.Error("not the same again:", showSubst(s))
		}
		spoilSubst(s)
		if whole(l) != before {
			t.Fatal("the answer shares what was handed in")
		}
	}
	if showSubst(first) != told {
		t.Error("answers share")
	}
	spoilSubst(first)
	unify.Terms(l[0][0], l[0][1])
	unify.Can(l[2][1], l[2][0])
	if whole(l) != before {
		t.Error("what was handed in is changed")
	}
}

// TestNothingKept: what the caller writes into his own terms later on changes no answer.
func TestNothingKept(t *testing.T) {
	left, right := of(f, x(0), of(g, x(1))), of(f, of(g, x(1)), of(g, of(f, of(a), of(b))))
	s, e := unify.Terms(left, right)
	told := showSubst(s)
	if e != api.OK || told != showSubst(binds(bind(0, of(g, of(f, of(a), of(b)))), bind(1, of(f, of(a), of(b))))) {
		t.Fatal(told, e)
	}
	spoil(&left)
	spoil(&right)
	if showSubst(s) != told {
		t.Error(showSubst(s))
	}
}
