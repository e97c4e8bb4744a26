package cnf_test

import (
	"fmt"
	"slices"
	"sync"
	"testing"
	"time"

	"syllogism/api"
	"syllogism/cnf"
)

// soon wants it to end.
func soon(t *testing.T, do func()) {
	t.Helper()
	done := make(chan int)
	go func() {
		defer close(done)
		do()
	}()
	select {
	case <-done:
	case <-time.After(60 * time.Second):
		t.Fatal("it does not end")
	}
}

func room[E any](l []E, change func(E) E, spare E) []E {
	out := make([]E, 0, len(l)+2)
	for _, x := range l {
		out = append(out, change(x))
	}
	out = append(out, spare, spare)
	return out[:len(l)]
}

func itself[E any](x E) E { return x }

// roomy are lists with spare room behind each, and something in it.
func roomyExpr(x api.Expr) api.Expr {
	return api.Expr{Var: x.Var, Name: x.Name, Args: room(x.Args, roomyExpr, of("spare", v("Spare")))}
}

func roomyForm(f api.Form) api.Form {
	return api.Form{
		Op:    f.Op,
		Vars:  room(f.Vars, itself, "Spare"),
		Terms: room(f.Terms, roomyExpr, of("spare", v("Spare"))),
		Args:  room(f.Args, roomyForm, no()),
	}
}

func roomy(l []api.Entry) []api.Entry {
	return room(l, func(x api.Entry) api.Entry {
		x.Form = roomyForm(x.Form)
		return x
	}, axiom(no()))
}

// full tells all of entries with their spare room.
func full(l []api.Entry) string {
	s := ""
	for _, x := range l[:cap(l)] {
		s += fmt.Sprint(x.Cnf, x.Name, x.Role, fullForm(x.Form))
	}
	return s
}

func fullForm(f api.Form) string {
	s := fmt.Sprint(f.Op, f.Vars[:cap(f.Vars)], "<")
	for _, x := range f.Terms[:cap(f.Terms)] {
		s += fullExpr(x)
	}
	for _, g := range f.Args[:cap(f.Args)] {
		s += fullForm(g)
	}
	return s + ">"
}

func fullExpr(x api.Expr) string {
	s := fmt.Sprint(x.Var, x.Name, "(")
	for _, y := range x.Args[:cap(x.Args)] {
		s += fullExpr(y)
	}
	return s + ")"
}

// spoil writes into all lists, spare room too.
func spoil(l []api.Entry) {
	l = l[:cap(l)]
	for i := range l {
		spoilForm(l[i].Form)
		l[i] = api.Entry{Name: "spoilt"}
	}
}

func spoilForm(f api.Form) {
	vars, args := f.Vars[:cap(f.Vars)], f.Args[:cap(f.Args)]
	for i := range vars {
		vars[i] = "Spoilt"
	}
	spoilExprs(f.Terms)
	for i := range args {
		spoilForm(args[i])
		args[i] = api.Form{Op: 77}
	}
}

func spoilExprs(l []api.Expr) {
	l = l[:cap(l)]
	for i := range l {
		spoilExprs(l[i].Args)
		l[i] = api.Expr{Var: true, Name: "Spoilt"}
	}
}

// lists counts how often each member of an answer's lists lies somewhere, spare room too.
func lists(seen map[any]int, a answer) {
	syms, c, from := a.sig.Syms[:cap(a.sig.Syms)], a.c[:cap(a.c)], a.from[:cap(a.from)]
	for i := range syms {
		seen[&syms[i]]++
	}
	for i := range c {
		seen[&c[i]]++
		l := c[i][:cap(c[i])]
		for j := range l {
			seen[&l[j]]++
			listsOfTerm(seen, l[j].L)
			listsOfTerm(seen, l[j].R)
		}
	}
	for i := range from {
		seen[&from[i]]++
	}
}

func listsOfTerm(seen map[any]int, x api.Term) {
	l := x.Args[:cap(x.Args)]
	for i := range l {
		seen[&l[i]]++
		listsOfTerm(seen, l[i])
	}
}

// spoilAnswer writes into all lists of an answer.
func spoilAnswer(a answer) {
	syms, from := a.sig.Syms[:cap(a.sig.Syms)], a.from[:cap(a.from)]
	for i := range syms {
		syms[i] = api.Sym{Name: "spoilt"}
	}
	for i := range from {
		from[i].Entry = -7
	}
	for _, c := range a.c[:cap(a.c)] {
		l := c[:cap(c)]
		for i := range l {
			spoilTerm(l[i].L)
			spoilTerm(l[i].R)
			l[i] = api.Lit{Neg: true}
		}
	}
}

func spoilTerm(x api.Term) {
	l := x.Args[:cap(x.Args)]
	for i := range l {
		spoilTerm(l[i])
		l[i] = api.Term{Fun: 77}
	}
}

// lieApart wants no list of two answers to lie where another one does.
func lieApart(t *testing.T, l []api.Entry, answers ...answer) {
	t.Helper()
	seen := map[any]int{}
	for _, a := range answers {
		lists(seen, a)
	}
	for _, n := range seen {
		if n > 1 {
			t.Errorf("%.300s: a place stands there %d times", showEntries(l), n)
			return
		}
	}
}

// bigs are entries that say much of each kind.
func bigs() [][]api.Entry {
	var l [][]api.Entry
	for _, text := range []string{
		"fof(x, axiom, ! [X,Y] : ? [Z,U] : (p(X,f(Y,'A'),Z) & X != f(U,a) & ? [Z] : ($true | q(Z,Y)))). cnf(y, plain, p(X,Y,X) | X = f(Y,Y) | ~ q(X,X) | p(X,Y,X)). fof(z, conjecture, ? [X] : q(f(X,X),X)).",
		"fof(x, axiom, ! [X] : ((p(X) & q(f(X,X)) & r) | (a & ((b & c & f(a) = g(X,f(a))) | (d & ? [Y] : q(f(Y,X)) & e))))).",
		"fof(x, negated_conjecture, (a <=> (b <~> ! [X] : p(X,f(X)))) & ! [Y] : ? [Z] : ~ p(Y,f(Z))). fof(y, axiom, $false). fof(z, lemma, $true).",
		"cnf(x, axiom, p(f(X,X),f(X,X)) | ~ p(f(X,X),f(X,X)) | f(X,X) = f(X,X)).", "fof(x, axiom, a).", "fof(x, axiom, $false).",
	} {
		l = append(l, problem(text))
	}
	return append(l, many(60, l[0][1]), []api.Entry{})
}

func TestNothingIsChanged(t *testing.T) {
	for _, l := range bigs() {
		want := made(l)
		if want.e != api.OK {
			t.Fatal(showEntries(l))
		}
		in := roomy(l)
		before := full(in)
		got, again := made(in), made(in)
		if got.show() != want.show() || full(in) != before {
			t.Errorf("%.500s: %.500s", showEntries(l), got.show())
		}
		lieApart(t, l, want, got, again)
		spoilAnswer(got)
		if full(in) != before || again.show() != want.show() {
			t.Errorf("%.500s", showEntries(l))
		}
		spoil(in)
		if again.show() != want.show() || made(l).show() != want.show() {
			t.Errorf("%.500s: %.500s", showEntries(l), again.show())
		}
	}
	for _, bad := range [][]api.Entry{append(bigs()[0], axiom(tooWide())), append(bigs()[0], bigs()[0]...), append(bigs()[1], tooMany()...), append(bigs()[2], clausal(or(facts("a", 17)...))), append(bigs()[1], api.Entry{})} {
		in := roomy(bad)
		before := full(in)
		if a := made(in); a.e == api.OK || full(in) != before {
			t.Errorf("%.500s: %v", showEntries(bad), a.e)
		}
	}
}

// TestSharedParts: where what is handed in has one list twice, the answer has two.
func TestSharedParts(t *testing.T) {
	x := []api.Expr{v("X"), of("f", v("X"))}
	x[1].Args = x[:1:1]
	e := api.Form{Op: api.FormEq, Terms: x}
	f := or(e, not(e), atom("p", x...), not(atom("q", of("g", x...), of("g", x...))))
	l := []api.Entry{clausal(f), axiom(all("X", f)), entry("conjecture", some("X", f)), clausal(f)}
	a := made(l)
	if a.e != api.OK || len(a.c) != 7 {
		t.Error(a.show())
	}
	lieApart(t, l, a, made(l))
}

func TestTermIsNew(t *testing.T) {
	sig := over()
	x := roomyExpr(of("f", of("f", v("X"), of("a")), of("g", of("a"), v("Y"), v("X"), v("X"), of("f", of("a")), of("f"))))
	vars := room([]string{"Y", "X"}, itself, "Spare")
	syms := room(sig.Syms, itself, api.Sym{Name: "spare"})
	before := fullExpr(x) + fmt.Sprint(vars[:cap(vars)], syms[:cap(syms)])
	one, e := cnf.Term(api.Sig{Syms: syms}, x, vars, false)
	two, f := cnf.Term(api.Sig{Syms: syms}, x, vars, false)
	want := showTerm(one)
	if e != api.OK || f != api.OK || before != fullExpr(x)+fmt.Sprint(vars[:cap(vars)], syms[:cap(syms)]) || showTerm(two) != want {
		t.Error(want, e, f)
	}
	seen := map[any]int{}
	listsOfTerm(seen, one)
	listsOfTerm(seen, two)
	for _, n := range seen {
		if n > 1 {
			t.Error(n)
		}
	}
	spoilTerm(one)
	spoilExprs(x.Args)
	for i := range vars[:cap(vars)] {
		vars[:cap(vars)][i] = "Spoilt"
	}
	if showTerm(two) != want || before == fullExpr(x) {
		t.Error(showTerm(two), want)
	}
	// one list for all arguments
	shared := []api.Expr{v("X"), of("a")}
	twice := of("f", of("f", shared...), of("f", shared...))
	got, _ := cnf.Term(sig, twice, []string{"X"}, false)
	seen = map[any]int{}
	listsOfTerm(seen, got)
	if len(seen) != 6 {
		t.Error(len(seen), showTerm(got))
	}
}

// TestTheSameAgain: nothing is kept from call to call, nor between those that go on at the same time.
func TestTheSameAgain(t *testing.T) {
	l := bigs()
	want := each(len(l), func(i int) string { return made(l[i]).show() })
	var going sync.WaitGroup
	for k := range 8 {
		going.Go(func() {
			for n := range 20 {
				i := (n*7 + k) % len(l)
				if got := made(l[i]).show(); got != want[i] {
					t.Errorf("%.300s: %.300s", showEntries(l[i]), got)
				}
				refuses(t, api.ErrArg, append(slices.Clone(l[i]), axiom(api.Form{}))...)
				finds(t, over(), of("p", of("f", v("Y"), of("a"))), []string{"X", "Y"}, true, "p(f(X1,a))")
			}
		})
	}
	going.Wait()
}

// TestNilAndEmpty: mean the same.
func TestNilAndEmpty(t *testing.T) {
	with := func(f api.Form) api.Form {
		f.Vars = append([]string{}, f.Vars...)
		f.Terms = append([]api.Expr{}, f.Terms...)
		for i := range f.Terms {
			f.Terms[i].Args = append([]api.Expr{}, f.Terms[i].Args...)
		}
		f.Args = append([]api.Form{}, f.Args...)
		return f
	}
	f := and(with(atom("p", api.Expr{Name: "a", Args: []api.Expr{}})), atom("p", of("a")), with(not(with(atom("q")))), with(no()))
	if one, two := made([]api.Entry{axiom(or(f, with(atom("q"))))}), made([]api.Entry{axiom(or(and(atom("p", of("a")), atom("p", of("a")), not(atom("q")), no()), atom("q")))}); one.show() != two.show() || one.e != api.OK {
		t.Error(one.show(), two.show())
	}
	finds(t, signature("a0"), api.Expr{Name: "a", Args: []api.Expr{}}, []string{}, false, "a")
	finds(t, signature("a0"), api.Expr{Name: "a"}, nil, false, "a")
	finds(t, signature("a0"), api.Expr{Var: true, Name: "X", Args: []api.Expr{}}, []string{"X"}, false, "X0")
	lacks(t, api.Sig{}, api.Expr{}, nil, false, api.ErrArg)
	lacks(t, api.Sig{}, api.Expr{}, []string{}, true, api.ErrArg)
	refuses(t, api.ErrArg, api.Entry{})
}

// TestFarBeyond: what is far too large or far too deep is refused soon, whatever it shares or comes back to.
func TestFarBeyond(t *testing.T) {
	soon(t, func() {
		f, x := atom("p", v("X")), v("X")
		for range 60000 {
			f, x = not(f), of("f", x)
		}
		shared, twice := yes(), of("a")
		for range 100 {
			shared, twice = and(shared, shared), of("f", twice, twice)
		}
		loop, around := many(2, not(yes())), many(2, of("f"))
		loop[0].Args, loop[1].Args = loop[1:], loop[:1]
		around[0].Args, around[1].Args = around, around
		l := []api.Form{f, shared, loop[0], eq(x, x), atom("p", x), atom("p", twice), atom("p", around...), or(many(200000, atom("a"))...), and(many(200000, eq(of("a"), of("b")))...), all("X", or(many(100000, atom("p", v("X")))...))}
		for _, f := range l {
			refuses(t, api.ErrLong, axiom(f))
			refuses(t, api.ErrLong, axiom(yes()), clausal(f), api.Entry{})
			refuses(t, api.ErrLong, many(100000, axiom(f))...)
		}
		sig := signature("f1 f2 a0 p1p p2p")
		for _, y := range []api.Expr{x, twice, around[0], of("p", x), of("f", of("a"), twice), of("f", many(200000, of("a"))...), {Var: true, Name: "X", Args: many(100000, x)}} {
			lacks(t, sig, y, []string{"X"}, false, api.ErrArg)
			lacks(t, sig, y, []string{"X"}, true, api.ErrArg)
			lacks(t, sig, y, many(100000, "X"), true, api.ErrArg)
			lacks(t, api.Sig{Syms: many(100000, api.Sym{Name: "f", Arity: 1})}, y, nil, true, api.ErrArg)
		}
		// what is as deep as it may be, but large
		large := of("a")
		for range 18 {
			large = of("f", large, large)
		}
		lacks(t, sig, large, nil, false, api.ErrLong)
		lacks(t, sig, of("f", large, of("b")), nil, false, api.ErrNone)
		lacks(t, sig, of("f", large, of("")), nil, false, api.ErrArg)
		name := string(many(1<<20, byte('a')))
		lacks(t, sig, of(name), nil, false, api.ErrArg)
		lacks(t, sig, v(name), []string{name}, false, api.ErrArg)
	})
}

// TestTheLongest: what takes the most steps within the limits.
func TestTheLongest(t *testing.T) {
	soon(t, func() {
		for _, f := range []api.Form{
			or(many(149, atom("a"))...), and(many(149, atom("a"))...), or(many(74, and(atom("a"), atom("b")))...), or(many(74, or(atom("a"), atom("b")))...), level(4), or(level(3), level(3), level(3)),
			all(variableNames(50), or(each(50, func(i int) api.Form { return atom("p", variables(50)[i]) })...)), some(variableNames(50), or(each(50, func(i int) api.Form { return atom("p", variables(50)[i]) })...)),
			or(level(3), and(many(40, or(atom("a"), atom("b")))...)), tooWide(),
		} {
			for _, n := range []int{1, 4, 200} {
				if a := made(many(n, axiom(f))); a.e != api.OK && a.e != api.ErrLong {
					t.Error(a.e)
				}
			}
		}
	})
}
