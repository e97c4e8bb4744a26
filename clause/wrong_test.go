package clause_test

import (
	"math"
	"slices"
	"testing"
	"time"

	"syllogism/api"
	"syllogism/clause"
)

// refused wants ErrArg, and no text.
func refused(t *testing.T, s api.Sig, c api.Clause) {
	t.Helper()
	if e := clause.Check(s, c); e != api.ErrArg {
		t.Errorf("%s: %v", show(c), e)
	}
	if text, e := clause.Text(s, c); text != "" || e != api.ErrArg {
		t.Errorf("%s: %q %v", show(c), text, e)
	}
}

// TestWrongSignatures: whatever the clause is, even of no literals.
func TestWrongSignatures(t *testing.T) {
	truth := api.Sym{Name: "$true", Pred: true}
	long := api.Sig{Syms: []api.Sym{truth}}
	for i := range api.MaxSyms {
		long.Syms = append(long.Syms, api.Sym{Name: "s" + string(rune('a'+i%26)), Arity: i / 26})
	}
	for _, s := range []api.Sig{
		{}, {Syms: sig().Syms[1:]}, {Syms: []api.Sym{{Name: "$true"}}}, {Syms: []api.Sym{truth, truth}}, long,
		{Syms: append(sig().Syms, api.Sym{Name: "a"})}, {Syms: append(sig().Syms, api.Sym{})}, {Syms: append(sig().Syms, api.Sym{Name: "c-d"})},
		{Syms: append(sig().Syms, api.Sym{Name: "c", Arity: -1})}, {Syms: append(sig().Syms, api.Sym{Name: "c", Arity: 7})},
	} {
		for _, c := range []api.Clause{nil, {}, {eq(x(0), x(0))}, {eq(of(a), of(b))}, {atom(of(q))}, example()} {
			refused(t, s, c)
		}
	}
	if e := clause.Check(api.Sig{Syms: long.Syms[:api.MaxSyms]}, lits(eq(of(95, x(0), x(0), x(0)), x(0)))); e != api.OK {
		t.Error("as many symbols as there may be:", e)
	}
}

// wrongTerms may be over no signature, or not over this one, neither proper nor as atoms.
func wrongTerms() []api.Term {
	l := []api.Term{
		of(8), of(8, x(0)), of(96), of(math.MaxInt), of(math.MaxInt, of(a)),
		x(48), x(49), x(95), x(math.MaxInt32), x(math.MaxInt), x(math.MaxInt - 1), of(math.MinInt, of(a)),
		of(a, of(a)), of(f), of(f, of(a)), of(f, x(0), x(0), x(0)), of(g), of(g, x(0), x(1)), of(p), of(p, x(0), x(0)), of(q, of(a)), of(r, x(0)),
		x(0, of(a)), x(0, x(0)), x(47, of(a), of(b)), x(48, x(0)),
		of(g, of(p, x(0))), of(g, of(q)), of(g, of(0)), of(f, x(0), of(r, x(0), x(0))), of(p, of(q)), of(p, of(0)), of(r, of(p, x(0)), of(a)), of(p, of(g, of(0))),
		of(0, x(0)), of(0, of(0)), nest(30, x(0)), nest(31, of(a)), of(p, nest(29, of(a))), broad(301), of(p, broad(300)), nest(2, broad(299)),
	}
	for _, t := range slices.Clone(l) {
		l = append(l, of(g, t), of(p, t), of(f, of(a), t), of(f, t, x(0)))
	}
	return l
}

func TestWrongTerms(t *testing.T) {
	for _, bad := range wrongTerms() {
		for _, l := range []api.Lit{
			eq(bad, of(a)), eq(of(a), bad), ne(bad, x(0)), ne(x(0), bad), atom(bad), deny(bad), eq(of(0), bad), eq(bad, bad), ne(of(p, x(0)), bad),
		} {
			refused(t, sig(), lits(l))
			refused(t, sig(), append(example(), l))
			refused(t, sig(), append(lits(l), example()...))
		}
	}
}

// TestWrongLiterals: of terms that may be, but no literals.
func TestWrongLiterals(t *testing.T) {
	proper := []api.Term{x(0), x(47), of(a), of(g, x(1)), of(f, of(a), x(0))}
	atoms := []api.Term{of(p, x(0)), of(q), of(r, of(a), x(2))}
	var wrong []api.Lit
	wrong = append(wrong, eq(of(0), of(0)))
	for _, s := range proper {
		wrong = append(wrong, eq(s, of(0)), eq(of(0), s))
		for _, u := range atoms {
			wrong = append(wrong, eq(s, u), eq(u, s))
		}
	}
	for _, s := range atoms {
		wrong = append(wrong, eq(of(0), s))
		for _, u := range atoms {
			wrong = append(wrong, eq(s, u))
		}
	}
	for _, l := range wrong {
		for _, neg := range []bool{false, true} {
			l.Neg = neg
			refused(t, sig(), lits(l))
			refused(t, sig(), append(many(15, atom(of(q))), l))
			refused(t, sig(), append(lits(l), example()...))
		}
	}
}

func TestTooManyLiterals(t *testing.T) {
	for _, l := range []api.Lit{atom(of(q)), eq(x(0), of(a)), eq(of(0), of(0))} {
		for _, n := range []int{17, 18, 32, 33, 100000} {
			refused(t, sig(), many(n, l))
		}
	}
}

// strange are clauses of all sorts that may not be.
func strange() []api.Clause {
	var out []api.Clause
	for i, s := range append(wrongTerms(), of(0), of(0, of(0)), of(math.MinInt), x(math.MaxInt)) {
		out = append(out, lits(eq(s, of(0))), lits(ne(of(0), s)), lits(eq(s, s), atom(of(q))), many(15+i%4, eq(of(g, s), of(a))))
	}
	return out
}

// TestStrangeClauses: calls that take any clauses take these.
func TestStrangeClauses(t *testing.T) {
	l := strange()
	for i, c := range l {
		d := l[(i+4)%len(l)]
		heldVariant(t, c, slices.Clone(c))
		heldVariant(t, c, d)
		heldAlike(t, c, slices.Clone(c))
		heldAlike(t, c, d)
		if !clause.Same(c, slices.Clone(c)) || clause.Same(c, d) != slices.EqualFunc(c, d, sameLit) {
			t.Error(show(c), show(d))
		}
		if e := clause.Check(sig(), c); e != api.ErrArg {
			t.Error(show(c), e)
		}
		size, vars := counted(c)
		if got := clause.Size(c); got != size {
			t.Error(show(c), got, size)
		}
		if got := clause.Vars(c); !slices.Equal(got, vars) {
			t.Error(show(c), got, vars)
		}
		at, told := all(c)
		if n := len(at); n != len(told) || n > 0 && !sameLit(told[n-1], c[at[n-1]]) || (n == 0) != c[0].Neg {
			t.Error(show(c), at)
		}
	}
}

// counted is a clause's size and variables, told by itself.
func counted(c api.Clause) (int, []int) {
	n := 0
	seen := map[int]bool{}
	var vars []int
	var look func(t api.Term)
	look = func(t api.Term) {
		n++
		if t.Fun < 0 && !seen[t.Fun] {
			seen[t.Fun] = true
			vars = append(vars, -1-t.Fun)
		}
		for _, s := range t.Args {
			look(s)
		}
	}
	for _, l := range c {
		look(l.L)
		if l.R.Fun != 0 || len(l.R.Args) > 0 {
			look(l.R)
		}
	}
	slices.Sort(vars)
	return n, vars
}

// TestVariablesWithArguments: they are renamed with what they have; but no matcher takes them, so nothing is alike in which one stands.
func TestVariablesWithArguments(t *testing.T) {
	holds(t,
		pair{lits(eq(x(0, of(a)), of(b))), lits(eq(x(3, of(a)), of(b))), true, false},
		pair{lits(eq(x(0, of(a)), of(b))), lits(eq(x(0), of(b))), false, false},
		pair{lits(eq(x(0, x(1)), x(1))), lits(eq(x(5, x(4)), x(4))), true, false},
		pair{lits(eq(x(0, x(1)), x(1))), lits(eq(x(5, x(5)), x(5))), false, false},
		pair{lits(eq(x(0, x(1)), x(1))), lits(eq(x(5, x(4)), x(5))), false, false},
		pair{lits(atom(of(q)), deny(of(p, nest(9, x(0, x(0)))))), lits(atom(of(q)), deny(of(p, nest(9, x(0, x(0)))))), true, false})
}

// TestVariablesFarOut: at the ends of int they are as any others.
func TestVariablesFarOut(t *testing.T) {
	ends := []int{0, 47, 48, 95, 96, 1 << 20, math.MaxInt32, math.MaxInt32 + 1, 1 << 40, math.MaxInt - 1, math.MaxInt}
	for i, m := range ends {
		n := ends[(i+1)%len(ends)]
		holds(t,
			pair{lits(eq(x(m), x(n))), lits(eq(x(n), x(m))), true, true},
			pair{lits(eq(x(m), x(n)), atom(of(p, x(m)))), lits(eq(x(0), x(1)), atom(of(p, x(1)))), false, true},
			pair{lits(eq(x(m), x(n))), lits(eq(x(m), x(m))), false, false},
			pair{lits(eq(x(m), of(math.MaxInt))), lits(eq(of(math.MaxInt), x(n))), false, true})
	}
}

// roomy is a clause with spare room behind it and behind all arguments.
func roomy(c api.Clause) api.Clause {
	var wide func(t api.Term) api.Term
	wide = func(t api.Term) api.Term {
		l := make([]api.Term, 0, len(t.Args)+2)
		for _, s := range t.Args {
			l = append(l, wide(s))
		}
		copy(l[len(l):cap(l)], []api.Term{of(77, of(78)), x(9)})
		return api.Term{Fun: t.Fun, Args: l}
	}
	out := make(api.Clause, 0, len(c)+2)
	for _, l := range c {
		out = append(out, api.Lit{Neg: l.Neg, L: wide(l.L), R: wide(l.R)})
	}
	copy(out[len(out):cap(out)], lits(atom(of(79)), ne(x(8), x(7))))
	return out
}

// whole tells a clause with its spare room.
func whole(c api.Clause) string {
	var full func(t api.Term) api.Term
	full = func(t api.Term) api.Term {
		out := of(t.Fun)
		for _, s := range t.Args[:cap(t.Args)] {
			out.Args = append(out.Args, full(s))
		}
		return out
	}
	var out api.Clause
	for _, l := range c[:cap(c)] {
		out = append(out, api.Lit{Neg: l.Neg, L: full(l.L), R: full(l.R)})
	}
	return show(out)
}

func TestNothingChanged(t *testing.T) {
	c := roomy(lits(eq(of(f, x(3), of(a)), x(0)), deny(of(p, x(3))), atom(of(q))))
	d := roomy(lits(deny(of(p, x(1))), atom(of(q)), eq(x(2), of(f, x(1), of(a)))))
	one, two := whole(c), whole(d)
	s := sig()
	s.Syms = append(make([]api.Sym, 0, 20), s.Syms...)
	s.Syms[:9][8] = api.Sym{Name: "spare"}
	clause.Check(s, c)
	clause.Text(s, c)
	clause.Size(c)
	clause.Vars(c)
	clause.Same(c, d)
	clause.Variant(c, d)
	if !clause.Alike(c, d) || clause.Alike(c[:2], d) {
		t.Error("alike as a whole alone")
	}
	all(c)
	if whole(c) != one || whole(d) != two || !slices.Equal(s.Syms[:9], append(sig().Syms, api.Sym{Name: "spare"})) {
		t.Error(whole(c), whole(d), s.Syms[:9])
	}
}

// spoil writes into all of a literal, spare room too.
func spoil(l *api.Lit) {
	var over func(t *api.Term)
	over = func(t *api.Term) {
		t.Fun = 99
		full := t.Args[:cap(t.Args)]
		for i := range full {
			over(&full[i])
		}
	}
	l.Neg = !l.Neg
	over(&l.L)
	over(&l.R)
}

// TestPositiveIsTheCallersOwn: what it tells was there when it was called, and what is done to it is seen nowhere else.
func TestPositiveIsTheCallersOwn(t *testing.T) {
	make := func() api.Clause {
		twice := of(f, x(0), of(g, x(1)))
		return lits(eq(twice, twice), deny(of(q)), atom(of(p, twice)), eq(twice, twice))
	}
	c := roomy(make())
	told := clause.Positive(c)
	for i := range c {
		spoil(&c[i])
	}
	for range 3 {
		var at []int
		for i, l := range told {
			if !sameLit(l, make()[i]) {
				t.Error(i, l)
			}
			at = append(at, i)
			spoil(&l)
		}
		if !slices.Equal(at, []int{0, 2, 3}) {
			t.Error(at)
		}
	}
	var kept api.Clause
	for _, l := range told {
		kept = append(kept, l)
	}
	spoil(&kept[0])
	spoil(&kept[2])
	if !sameLit(kept[1], make()[2]) {
		t.Error(kept[1])
	}
	one := lits(eq(of(f, x(0), x(1)), of(f, x(0), x(1))))
	for _, l := range clause.Positive(one) {
		l.L.Args[0] = of(a)
		if !same(l.R, one[0].R) {
			t.Error("sides share:", l)
		}
	}
}

// TestVarsIsTheCallersOwn, spare room too.
func TestVarsIsTheCallersOwn(t *testing.T) {
	c := lits(eq(x(4), of(f, x(2), x(4))))
	one, two := clause.Vars(c), clause.Vars(c)
	for i := range one[:cap(one)] {
		one[:cap(one)][i] = 99
	}
	if !slices.Equal(two, []int{2, 4}) || !slices.Equal(clause.Vars(c), []int{2, 4}) {
		t.Error(two)
	}
}

// TestLongAndDeep: far beyond what may be, it ends.
func TestLongAndDeep(t *testing.T) {
	done := make(chan struct{})
	go func() {
		defer close(done)
		deep := nest(50000, x(0))
		long := many(100000, eq(x(1), of(g, x(0))))
		c, d := lits(eq(deep, of(a)), eq(x(1), x(2)), eq(deep, x(0))), lits(eq(x(2), x(1)), eq(of(a), deep), eq(x(0), deep))
		refused(t, sig(), c)
		refused(t, sig(), long)
		holds(t, pair{c, d, false, true}, pair{long, slices.Clone(long), true, false}, pair{long, long[1:], false, false})
		if clause.Size(c) != 100006 || clause.Size(long) != 300000 || !slices.Equal(clause.Vars(c), []int{0, 1, 2}) || !slices.Equal(clause.Vars(long), []int{0, 1}) {
			t.Error(clause.Size(c), clause.Size(long), clause.Vars(c))
		}
		if at, l := all(long); len(at) != 100000 || !clause.Same(l, long) || clause.Same(long, long[1:]) {
			t.Error(len(at))
		}
		// As many tries as there are, each of large terms.
		var e api.Clause
		for i := range 16 {
			e = append(e, eq(of(f, x(2*i), nest(200, x(2*i+1))), of(f, nest(200, x(2*i)), x(2*i+1))))
		}
		holds(t, pair{append(e[:15:15], atom(of(q))), append(e[:15:15], deny(of(q))), false, false})
	}()
	select {
	case <-done:
	case <-time.After(2 * time.Minute):
		t.Fatal("no end")
	}
}
