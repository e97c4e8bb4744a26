package cnf_test

import (
	"fmt"
	"slices"
	"testing"

	"syllogism/api"
	"syllogism/formula"
	"syllogism/nnf"
)

func TestHowManyEntries(t *testing.T) {
	l := many(200, axiom(parsed("p | ~ q")))
	a := fits(t, 200, l...)
	if a.from[199] != (api.Origin{Entry: 199}) {
		t.Error(a.from[199])
	}
	for _, bad := range []api.Entry{l[0], axiom(yes()), {}, entry("none", no())} {
		refuses(t, api.ErrLong, append(slices.Clone(l), bad)...)
		refuses(t, api.ErrLong, append([]api.Entry{bad}, l...)...)
	}
	fits(t, 0, many(200, axiom(yes()))...)
}

func TestArgumentsOfNewSymbols(t *testing.T) {
	for n := range 10 {
		vars := variables(n)
		names := ""
		for _, x := range vars {
			names += x.Name + " "
		}
		around := func(f api.Form) api.Entry {
			if n > 0 {
				f = all(names, f)
			}
			return axiom(f)
		}
		within := each(n, func(i int) api.Form { return atom("p", vars[i]) })
		skolem := around(some("Y", or(append(within[:n:n], atom("q", v("Y")), atom("r"))...)))
		part := around(or(and(or(append(within[:n:n], atom("s"), atom("r"))...), atom("a"), atom("b")), and(atom("c"), atom("d"), atom("e"))))
		if n > 6 {
			refuses(t, api.ErrLong, skolem)
			refuses(t, api.ErrLong, part)
			refuses(t, api.ErrLong, axiom(yes()), axiom(no()), part)
			continue
		}
		if a := fits(t, 1, skolem); !slices.Contains(a.sig.Syms, api.Sym{Name: "sk1", Arity: n}) {
			t.Error(n, a.names())
		}
		if a := fits(t, 7, part); !slices.Contains(a.sig.Syms, api.Sym{Name: "def1", Arity: n, Pred: true}) {
			t.Error(n, a.names())
		}
	}
	// what is not free in it does not count
	seven := "A B C D E F G"
	fits(t, 1, axiom(all(seven, some("Y", or(atom("p", v("A"), v("F")), atom("q", v("G"), v("Y")))))))
	fits(t, 7, axiom(all(seven, or(and(atom("p", v("A"), v("B"), v("C"), v("D"), v("E"), v("F")), atom("a"), atom("b")), and(atom("p", v("G")), atom("c"), atom("d"))))))
	// symbols of six arguments that the entries have are none of them
	fits(t, 1, axiom(all(seven, or(atom("p", v("A"), v("B"), v("C"), v("D"), v("E"), v("F")), atom("p", v("G"))))))
}

func TestHowManySymbols(t *testing.T) {
	one, of := axiom(some("Y", atom("a0", v("Y")))), axiom(or(and(facts("a", 3)...), and(facts("a", 3)...)))
	for n := 92; n < 100; n++ {
		// $true and n
		l := each(n, func(i int) api.Entry { return axiom(atom(fmt.Sprint("a", i))) })
		if n > 95 {
			refuses(t, api.ErrLong, l...)
			refuses(t, api.ErrLong, axiom(or(append(facts("a", n), yes())...)))
			continue
		}
		if a := fits(t, n, l...); len(a.sig.Syms) != n+1 {
			t.Error(n, a.names())
		}
		fits(t, 0, axiom(or(append(facts("a", n), yes())...)))
		// a0 of one argument is one more, sk1 another one
		if with := append(l, one); n > 93 {
			refuses(t, api.ErrLong, with...)
		} else {
			fits(t, n+1, with...)
		}
		if with := append(l, of); n > 93 {
			refuses(t, api.ErrLong, with...)
		} else {
			fits(t, n+7, with...)
		}
		if with := append([]api.Entry{one, of}, l...); n > 91 {
			refuses(t, api.ErrLong, with...)
		} else {
			fits(t, n+8, with...)
		}
	}
	// 95 new functions over the signature of p alone are one too many
	several := func(n int) api.Form {
		return some(fmt.Sprint(variableNames(n)), and(each(n, func(i int) api.Form { return atom("p", variables(n)[i]) })...))
	}
	if a := fits(t, 94, axiom(several(50)), axiom(several(44))); len(a.sig.Syms) != 96 || a.sig.Syms[95].Name != "sk94" {
		t.Error(a.names())
	}
	refuses(t, api.ErrLong, axiom(several(50)), axiom(several(45)))
}

// variableNames is how they are told to all and some.
func variableNames(n int) string {
	s := ""
	for _, x := range variables(n) {
		s += x.Name + " "
	}
	return s
}

func TestLiteralsOfAClause(t *testing.T) {
	for n := 2; n < 20; n++ {
		l := facts("a", n)
		entries := []api.Entry{
			axiom(or(l...)), clausal(or(l...)), axiom(not(and(l...))),
			axiom(or(append(append(l[:n:n], l...), no())...)), clausal(or(append(many(5, l[n-1]), l...)...)),
		}
		for _, x := range entries {
			if n > 16 {
				refuses(t, api.ErrLong, x)
				refuses(t, api.ErrLong, axiom(atom("b")), x)
			} else {
				fits(t, 1, x)
			}
		}
		// one that goes has as many as it likes
		fits(t, 0, clausal(or(append(l[:n:n], yes())...)))
		// the atom ahead of a part that was put off counts, too
		x := axiom(or(and(or(l...), atom("b"), atom("c")), and(atom("d"), atom("e"), atom("f"))))
		if n > 15 {
			refuses(t, api.ErrLong, x)
		} else {
			fits(t, 7, x)
		}
		// not the first clause alone
		x = axiom(and(atom("b"), atom("c"), or(append(l[:n:n], not(l[0]))...)))
		if n > 15 {
			refuses(t, api.ErrLong, x)
		} else {
			fits(t, 3, x)
		}
	}
	// literals that differ in a side, in Neg, in a variable are not the same
	refuses(t, api.ErrLong, clausal(or(append(facts("a", 15), eq(of("a"), of("b")), eq(of("b"), of("a")))...)))
	refuses(t, api.ErrLong, clausal(or(append(facts("a", 15), atom("p", v("X")), atom("p", v("Y")))...)))
	fits(t, 1, clausal(or(append(facts("a", 15), atom("p", v("X")), atom("p", v("X")))...)))
}

// wide is a term of that many leaves, six at most in a row.
func wide(leaves []api.Expr) api.Expr {
	for len(leaves) > 6 {
		var next []api.Expr
		for row := range slices.Chunk(leaves, 6) {
			next = append(next, of("h", row...))
		}
		leaves = next
	}
	return of("h", leaves...)
}

// TestSizesOfTerms: new functions make terms large; each Y is seven symbols and variables by then.
func TestSizesOfTerms(t *testing.T) {
	for more := range 12 {
		// h of six h's of six leaves: 7 and 36 times 7; and of 36 more steps
		leaves := many(36, of("f", v("Y")))
		leaves[35] = deep(1+more, v("Y"))
		x := wide(leaves)
		size := 7 + 35*8 + 7 + more
		around := func(f api.Form) api.Entry {
			return axiom(all("A B C D E F", some("Y", and(f, atom("p", v("A"), v("B"), v("C"), v("D"), v("E"), v("F"))))))
		}
		for _, f := range []api.Form{eq(x, of("a")), eq(of("a"), x), not(eq(x, x)), or(atom("q"), eq(of("a"), x))} {
			if size > 300 {
				refuses(t, api.ErrLong, around(f))
			} else {
				fits(t, 2, around(f))
			}
		}
		if f := atom("q", x); size > 299 {
			refuses(t, api.ErrLong, around(f))
		} else {
			a := fits(t, 2, around(f))
			if !slices.Contains(a.sig.Syms, api.Sym{Name: "sk1", Arity: 6}) {
				t.Error(a.names())
			}
		}
	}
	// in the sum of both sides there may be more
	x := wide(many(36, of("f", v("Y"))))
	fits(t, 2, axiom(all("A B C D E F", some("Y", and(eq(x, x), atom("p", v("A"), v("B"), v("C"), v("D"), v("E"), v("F")))))))
	fits(t, 1, axiom(atom("p", wide(many(36, deep(5, of("a")))))))
	if e := made([]api.Entry{axiom(atom("p", wide(many(36, deep(9, of("a"))))))}).e; e != api.ErrLong {
		t.Error(e)
	}
}

func TestDepthsOfTerms(t *testing.T) {
	for n := 24; n < 31; n++ {
		x, a := deep(n, v("Y")), of("a")
		skolem := func(f api.Form) api.Entry { return axiom(all("X", some("Y", and(f, atom("q", v("X"), v("Y")))))) }
		// an atom is one deeper, the new function with its argument too
		for _, f := range []api.Form{eq(x, a), eq(a, x), not(eq(a, of("g", a, x.Args[0])))} {
			if n > 29 {
				refuses(t, api.ErrLong, skolem(f))
			} else {
				fits(t, 2, skolem(f))
			}
		}
		if n < 30 {
			if f := atom("p", a, x); n > 28 {
				refuses(t, api.ErrLong, skolem(f))
			} else {
				fits(t, 2, skolem(f))
			}
		}
		// a new constant is no deeper
		fits(t, 1, axiom(some("Y", eq(a, x))))
		fits(t, 1, axiom(all("Y", eq(x, a))))
	}
	fits(t, 1, axiom(all("Y", atom("p", deep(29, v("Y"))))))
	fits(t, 1, axiom(some("Y", atom("p", deep(29, v("Y"))))))
}

func TestVariablesOfAClause(t *testing.T) {
	for n := 46; n < 52; n++ {
		vars := variables(n)
		var l []api.Form
		for row := range slices.Chunk(vars, 6) {
			l = append(l, atom("p", row...))
		}
		for _, x := range []api.Entry{clausal(or(l...)), axiom(all(variableNames(n), or(l...))), axiom(all(variableNames(n), or(append(l, l[0], not(l[0]))...)))} {
			if n > 48 {
				refuses(t, api.ErrLong, x)
			} else {
				fits(t, 1, x)
			}
		}
		// in several clauses there may be more
		fits(t, len(l), axiom(all(variableNames(n), and(l...))))
	}
}

func TestHowManyClauses(t *testing.T) {
	axioms := func(n int) api.Entry { return axiom(and(facts("a", n)...)) }
	parts := axiom(or(and(facts("a", 3)...), and(facts("a", 3)...))) // 7
	rows := axiom(or(and(facts("a", 2)...), and(facts("a", 4)...)))  // 8
	fits(t, 320, many(4, axioms(80))...)
	fits(t, 400, many(5, axioms(80))...)
	most := append(many(4, axioms(80)), many(3, axioms(20))...) // 380
	last := append(slices.Clone(most), axioms(19))
	one, none, empty := axiom(atom("a0")), axiom(yes()), axiom(no())
	fits(t, 399, last...)
	fits(t, 400, append(last[:8:8], one)...)
	fits(t, 400, append(last[:8:8], empty)...)
	fits(t, 400, append(last[:8:8], none, one, none, none)...)
	for _, more := range [][]api.Entry{{one, one}, {axioms(2)}, {one, empty}, {one, none, one}, {parts}, {rows}} {
		refuses(t, api.ErrLong, append(last[:8:8], more...)...)
		refuses(t, api.ErrLong, append(more[:len(more):len(more)], last...)...)
	}
	for n := 8; n < 20; n++ {
		seven, eight := append(most[:7:7], axioms(n), parts), append(most[:7:7], rows, axioms(n))
		if n > 13 {
			refuses(t, api.ErrLong, seven...)
		} else {
			fits(t, 387+n, seven...)
		}
		if n > 12 {
			refuses(t, api.ErrLong, eight...)
		} else {
			fits(t, 388+n, eight...)
		}
	}
}

// TestTooLargeInside: what nnf can't make.
func TestTooLargeInside(t *testing.T) {
	f := atom("a")
	short, long := 0, 0
	for range 14 {
		if g, e := nnf.Inside(f); e != api.OK {
			refuses(t, api.ErrLong, axiom(f))
			refuses(t, api.ErrLong, axiom(parsed("p & q")), axiom(f))
			long++
		} else if held(t, []api.Entry{axiom(parsed("p & q")), axiom(f)}); formula.Size(g) > 1000 {
			short++
		}
		f = iff(f, atom("b"))
	}
	if short == 0 || long < 4 || formula.Size(f) > 60 {
		t.Error(short, long)
	}
}
