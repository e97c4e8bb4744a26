package nnf_test

import (
	"sync"
	"testing"
	"time"

	"syllogism/api"
	"syllogism/formula"
)

// soon wants it to end.
func soon(t *testing.T, do func()) {
	t.Helper()
	done := make(chan int)
	go func() {
		defer close(done)
		do()
	}()
	select {
	case <-done:
	case <-time.After(60 * time.Second):
		t.Fatal("it does not end")
	}
}

// roomy is a formula with spare room behind each list, and something in it.
func roomy(f api.Form) api.Form {
	var wide func(x api.Expr) api.Expr
	wide = func(x api.Expr) api.Expr {
		return api.Expr{Var: x.Var, Name: x.Name, Args: room(x.Args, wide, of("spare", v("Spare")))}
	}
	return api.Form{
		Op:    f.Op,
		Vars:  room(f.Vars, func(s string) string { return s }, "Spare"),
		Terms: room(f.Terms, wide, of("spare", v("Spare"))),
		Args:  room(f.Args, roomy, no()),
	}
}

func room[E any](l []E, change func(E) E, spare E) []E {
	out := make([]E, 0, len(l)+2)
	for _, x := range l {
		out = append(out, change(x))
	}
	out = append(out, spare, spare)
	return out[:len(l)]
}

// full is a formula with all its spare room laid open.
func full(f api.Form) api.Form {
	var wide func(x api.Expr) api.Expr
	wide = func(x api.Expr) api.Expr {
		return api.Expr{Var: x.Var, Name: x.Name, Args: mapped(x.Args[:cap(x.Args)], wide)}
	}
	return api.Form{Op: f.Op, Vars: f.Vars[:cap(f.Vars)], Terms: mapped(f.Terms[:cap(f.Terms)], wide), Args: mapped(f.Args[:cap(f.Args)], full)}
}

func mapped[E any](l []E, change func(E) E) []E {
	var out []E
	for _, x := range l {
		out = append(out, change(x))
	}
	return out
}

// spoil writes into all of a formula's lists, spare room too.
func spoil(f api.Form) {
	vars := f.Vars[:cap(f.Vars)]
	for i := range vars {
		vars[i] = "Spoilt"
	}
	spoilTerms(f.Terms)
	args := f.Args[:cap(f.Args)]
	for i := range args {
		spoil(args[i])
		args[i] = api.Form{Op: 77}
	}
}

func spoilTerms(l []api.Expr) {
	l = l[:cap(l)]
	for i := range l {
		spoilTerms(l[i].Args)
		l[i] = api.Expr{Var: true, Name: "Spoilt"}
	}
}

// places counts how often each member of a formula's lists lies somewhere, spare room too.
func places(seen map[any]int, f api.Form) {
	var terms func(l []api.Expr)
	terms = func(l []api.Expr) {
		l = l[:cap(l)]
		for i := range l {
			seen[&l[i]]++
			terms(l[i].Args)
		}
	}
	vars := f.Vars[:cap(f.Vars)]
	for i := range vars {
		seen[&vars[i]]++
	}
	terms(f.Terms)
	args := f.Args[:cap(f.Args)]
	for i := range args {
		seen[&args[i]]++
		places(seen, args[i])
	}
}

// lieApart wants no list of an answer to lie where another one of it does, nor where one of what was handed in does.
func lieApart(t *testing.T, c call, f, g api.Form) {
	t.Helper()
	given, told := map[any]int{}, map[any]int{}
	places(given, f)
	places(told, g)
	for at, n := range told {
		if n > 1 || given[at] > 0 {
			t.Errorf("%s(%.300s): a place of %.300s stands there %d times, and %d times in what was handed in", c.name, show(f), show(g), n, given[at])
			return
		}
	}
}

// bigs are formulas that say much of each kind.
func bigs() []api.Form {
	var l []api.Form
	for _, text := range []string{
		"(! [X,Y] : (p(X,f(Y,'A')) & X != f(Z,a) & ? [Z] : ($true | q(Z)))) => ($false <=> (r <~> X != Y))",
		"(a & b) & (c & (d & e)) & ! [X] : (p(X,X) & (q(X) & X = f(X,f(X,a))))",
		"~ (p(f(X,f(X)),Y) <=> ((f(X) = g(X,Y)) <~> (a => ! [X,Y] : q(f(X),g(Y,X)))))",
		"p(X,f(a)) <=> (q(X) <=> ? [A,B] : r(A,f(B),X0))",
		"$true & (p(X) | ($false | q(X,f(X,Y)))) & ~ ~ ! [Z,X] : ~ ~ X = f(Z)",
		"! [X,Y,Z] : p(Y)", "p(a)", "X != f(Y,a)", "a", "$true", "a & $true", "~ ~ (p(f(a)) | q(X))", "! [X] : ! [Y,Z] : ? [X] : p(X,Y)",
	} {
		l = append(l, parsed(text))
	}
	return append(l, plus(parsed("~ (p(X) <=> ! [X] : q(X,f(X)))"), 300), and(many(60, parsed("! [X,Y] : (p(X) => q(Y,f(X)))"))...))
}

func TestNothingIsChanged(t *testing.T) {
	for _, f := range bigs() {
		for _, c := range calls() {
			want := made(t, c, f)
			g := roomy(f)
			before := show(full(g))
			h := made(t, c, g)
			if !same(h, want) || show(full(g)) != before {
				t.Errorf("%s(%.300s): %.300s, beside %.300s", c.name, show(f), show(h), show(full(g)))
			}
			lieApart(t, c, g, h)
			lieApart(t, c, f, want)
			spoil(h)
			if show(full(g)) != before {
				t.Errorf("%s(%.300s): %.300s", c.name, show(f), show(full(g)))
			}
			kept := made(t, c, g)
			spoil(g)
			if !same(kept, want) {
				t.Errorf("%s(%.300s): %.300s, not %.300s", c.name, show(f), show(kept), show(want))
			}
		}
	}
}

// TestNothingIsChangedByAnError: neither.
func TestNothingIsChangedByAnError(t *testing.T) {
	deep := iff(atom("p", v("X")), atom("q"))
	for range 12 {
		deep = iff(deep, atom("q"))
	}
	for _, bad := range []api.Form{and(parsed("~ ! [X] : p(X,f(X))"), api.Form{}), all("X X", parsed("p(X) & q")), deep, or(many(2001, atom("p", v("X")))...)} {
		f := roomy(bad)
		before := show(full(f))
		for _, c := range calls() {
			g, e := c.do(f)
			if (e == api.OK) == zero(g) {
				t.Error(c.name, e)
			}
			if show(full(f)) != before {
				t.Errorf("%s(%.300s)", c.name, show(bad))
			}
		}
	}
}

// TestSharedParts: where what is handed in has one list twice, the answer has two.
func TestSharedParts(t *testing.T) {
	x := []api.Expr{v("X"), of("f", v("X"))}
	x[1].Args = x[:1:1]
	e := api.Form{Op: api.FormEq, Terms: x}
	names := []string{"X", "Y"}
	q := api.Form{Op: api.FormAll, Vars: names, Args: []api.Form{and(e, not(e), atom("p", x...))}}
	f := and(q, api.Form{Op: api.FormSome, Vars: names, Args: q.Args}, xor(q, q), iff(e, not(q)), implies(q, q))
	fresh := parsed("(! [X,Y] : (X = f(X) & X != f(X) & p(X,f(X)))) & a")
	r := fresh.Args[0]
	s := parsed("(? [X,Y] : (X = f(X) & X != f(X) & p(X,f(X)))) & a").Args[0]
	g := and(r, s, xor(r, r), iff(parsed("X = f(X)"), not(r)), implies(r, r))
	for _, c := range calls() {
		h := made(t, c, f)
		lieApart(t, c, f, h)
		if want := made(t, c, g); !same(h, want) {
			t.Errorf("%s: %s, not %s", c.name, show(h), show(want))
		}
	}
}

// TestAnswersAreApart: of thrown formulas.
func TestAnswersAreApart(t *testing.T) {
	for i, f := range thrown(154, 300) {
		c := calls()[i%3]
		if c.name == "Inside" && outside(f) > api.MaxNodes {
			continue
		}
		before := show(f)
		one, two := made(t, c, f), made(t, c, f)
		lieApart(t, c, f, one)
		lieApart(t, c, one, two)
		spoil(one)
		if again := made(t, c, f); !same(again, two) || show(f) != before {
			t.Errorf("%s(%.300s): %.300s, not %.300s", c.name, before, show(again), show(two))
		}
	}
}

// TestTheSameAgain: nothing is kept from call to call, nor between those that go on at the same time.
func TestTheSameAgain(t *testing.T) {
	l := bigs()
	want := map[string][]api.Form{}
	for _, c := range calls() {
		for _, f := range l {
			want[c.name] = append(want[c.name], made(t, c, f))
		}
	}
	var going sync.WaitGroup
	for k := range 8 {
		going.Go(func() {
			for n := range 20 {
				for _, c := range calls() {
					i := (n*7 + k) % len(l)
					becomes(t, c, l[i], want[c.name][i])
					refuses(t, c, not(and(l[i], api.Form{})), api.ErrArg)
				}
			}
		})
	}
	going.Wait()
}

// TestFarBeyond: what is far too large or far too deep is refused soon, whatever it shares or comes back to.
func TestFarBeyond(t *testing.T) {
	soon(t, func() {
		deep, term := all("X", atom("p", v("X"))), v("X")
		for range 60000 {
			deep = not(deep)
			term = of("f", term)
		}
		wide := form(api.FormAnd, many(200000, eq(v("X"), of("a")))...)
		shared, twice, other := yes(), of("a"), no()
		for range 100 {
			shared, other = and(shared, other), or(other, shared)
			twice = of("f", twice, of("g", twice), twice)
		}
		loop := many(2, not(yes()))
		loop[0].Args, loop[1].Args = loop[1:], loop[:1]
		around := many(2, of("f"))
		around[0].Args, around[1].Args = around, around
		for _, f := range []api.Form{
			deep, wide, shared, other, loop[0], eq(term, term), atom("p", term), eq(twice, of("a")), eq(of("a"), around[0]), {Op: api.FormAtom, Terms: around}, {Op: api.FormAtom, Terms: around[:1]},
			{Op: api.FormAll, Vars: many(200000, "X"), Args: []api.Form{yes()}}, {Op: api.FormEq, Terms: many(200000, of("a"))}, {Op: -5, Vars: many(100000, "X"), Terms: []api.Expr{term}, Args: []api.Form{wide, deep}},
			eq(of("f", many(200000, v("X"))...), v("X")), implies(many(200000, yes())...),
		} {
			for _, c := range calls() {
				if g, e := c.do(f); e != api.ErrArg || !zero(g) {
					t.Error(c.name, f.Op, e)
				}
				if g, e := c.do(not(and(yes(), f))); e != api.ErrArg || !zero(g) {
					t.Error(c.name, f.Op, e)
				}
			}
		}
	})
}

// TestAsItIsOnTheWay: the calls one behind the other, as those of a layer above call them.
func TestAsItIsOnTheWay(t *testing.T) {
	f := parsed("(! [X] : (p(X) & ($true => q(X,Y)))) <=> ~ (? [X,Z] : ~ ~ q(X,X) & ~ $false)")
	for _, c := range []call{simple(), inside(), simple(), apart()} {
		f = made(t, c, f)
	}
	want := parsed("((? [X0] : (~ p(X0) | ~ q(X0,Y))) | ! [X1] : ~ q(X1,X1)) & ((! [X2] : (p(X2) & q(X2,Y))) | ? [X3] : q(X3,X3))")
	if !same(f, want) {
		t.Errorf("%s, not %s", show(f), show(want))
	}
	if free := formula.Free(f); len(free) != 1 || free[0] != "Y" {
		t.Error(free)
	}
}
