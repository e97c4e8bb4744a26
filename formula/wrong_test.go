package formula_test

import (
	"slices"
	"strings"
	"sync"
	"testing"

	"syllogism/api"
	"syllogism/formula"
)

// roomy is a formula with spare room behind each list, and something in it.
func roomy(f api.Form) api.Form {
	var wide func(x api.Expr) api.Expr
	wide = func(x api.Expr) api.Expr {
		return api.Expr{Var: x.Var, Name: x.Name, Args: room(x.Args, wide, of("spare", v("Spare")))}
	}
	return api.Form{
		Op:    f.Op,
		Vars:  room(f.Vars, func(s string) string { return s }, "Spare"),
		Terms: room(f.Terms, wide, of("spare", v("Spare"))),
		Args:  room(f.Args, roomy, all("Spare", atom("spare", v("Spare")))),
	}
}

func room[E any](l []E, change func(E) E, spare E) []E {
	out := make([]E, 0, len(l)+2)
	for _, x := range l {
		out = append(out, change(x))
	}
	out = append(out, spare, spare)
	return out[:len(l)]
}

// full is a formula with all its spare room laid open.
func full(f api.Form) api.Form {
	var wide func(x api.Expr) api.Expr
	wide = func(x api.Expr) api.Expr {
		return api.Expr{Var: x.Var, Name: x.Name, Args: mapped(x.Args[:cap(x.Args)], wide)}
	}
	return api.Form{Op: f.Op, Vars: f.Vars[:cap(f.Vars)], Terms: mapped(f.Terms[:cap(f.Terms)], wide), Args: mapped(f.Args[:cap(f.Args)], full)}
}

func mapped[E any](l []E, change func(E) E) []E {
	var out []E
	for _, x := range l {
		out = append(out, change(x))
	}
	return out
}

// spoil writes into all of a formula's lists, spare room too.
func spoil(f api.Form) {
	vars := f.Vars[:cap(f.Vars)]
	for i := range vars {
		vars[i] = "Spoilt"
	}
	spoilTerms(f.Terms)
	args := f.Args[:cap(f.Args)]
	for i := range args {
		spoil(args[i])
		args[i] = api.Form{Op: 77}
	}
}

func spoilTerms(l []api.Expr) {
	l = l[:cap(l)]
	for i := range l {
		spoilTerms(l[i].Args)
		l[i] = api.Expr{Var: true, Name: "Spoilt"}
	}
}

func big() api.Form {
	return implies(all("X Y", and(atom("p", v("X"), of("f", v("Y"), of("A"))), not(eq(v("X"), of("f", v("Z"), of("a")))), some("Z", or(yes(), atom("q", v("Z")))))), iff(no(), xor(atom("r"), not(eq(v("X"), v("Y"))))))
}

func TestNothingIsChanged(t *testing.T) {
	f, g := roomy(big()), roomy(big())
	before := show(full(f))
	formula.Check(f)
	formula.Size(f)
	formula.Free(f)
	formula.Symbols(f)
	formula.Text(f)
	if !formula.Same(f, g) {
		t.Error("not the same")
	}
	for g := range formula.Parts(f) {
		spoil(g)
	}
	if show(full(f)) != before || show(full(g)) != before {
		t.Error(show(full(f)))
	}
	l := cut(t, "a & ! [X] : p(X,'B') | $true")
	l = append(l, l...)
	was := slices.Clone(l)
	for from := range len(l) / 2 {
		formula.Read(l[:len(l)/2], from)
		formula.Read(l[from:len(l)/2], 0)
	}
	if !slices.Equal(l, was) {
		t.Error(l)
	}
}

// TestSpareRoomIsNotLookedAt: what lies behind a list is none of it.
func TestSpareRoomIsNotLookedAt(t *testing.T) {
	for _, f := range append(each(), big(), api.Form{}) {
		g := roomy(f)
		checks(t, g, plainCheck(f))
		heldTree(t, g)
		sized(t, g, plainSize(f))
		equals(t, f, g, true)
	}
	l := cut(t, "a & b & c")
	reads(t, l[:3], 0, and(atom("a"), atom("b")), 3)
	fails(t, l[:4], 0, 3, api.ErrForm)
}

// TestPartsAreTheCallersOwn: they are what was there when Parts was called, and what is done to one is seen in no other one.
func TestPartsAreTheCallersOwn(t *testing.T) {
	f := roomy(big())
	want := plainParts(big())
	seq := formula.Parts(f)
	spoil(f)
	for range 3 {
		i := 0
		for g := range seq {
			if !same(g, want[i]) {
				t.Errorf("%d: %s", i, show(g))
			}
			spoil(g)
			i++
		}
		if i != len(want) {
			t.Error(i)
		}
	}
	l := slices.Collect(seq)
	for i := range l {
		if !same(l[i], want[i]) {
			t.Errorf("%d: %s", i, show(l[i]))
		}
		spoil(l[i])
	}
}

// TestPartsOfWhatIsShared: each part told has lists of its own, also where the formula has one list twice.
func TestPartsOfWhatIsShared(t *testing.T) {
	x := []api.Expr{v("X"), of("f", v("X"))}
	x[1].Args = x[:1]
	e := api.Form{Op: api.FormEq, Terms: x}
	f := api.Form{Op: api.FormAll, Vars: []string{"X"}, Args: []api.Form{and(e, e, not(e))}}
	want := plainParts(and(f, f))
	for g := range formula.Parts(and(f, f)) {
		apart(t, g)
		if !same(g, want[0]) {
			t.Error(show(g))
		}
		want = want[1:]
	}
}

// apart wants no list of a formula to lie where another one does: each is written into by itself.
func apart(t *testing.T, f api.Form) {
	t.Helper()
	seen := map[any]int{}
	var terms func(l []api.Expr)
	terms = func(l []api.Expr) {
		l = l[:cap(l)]
		for i := range l {
			seen[&l[i]]++
			terms(l[i].Args)
		}
	}
	var look func(f api.Form)
	look = func(f api.Form) {
		for i := range f.Vars[:cap(f.Vars)] {
			seen[&f.Vars[:cap(f.Vars)][i]]++
		}
		terms(f.Terms)
		l := f.Args[:cap(f.Args)]
		for i := range l {
			seen[&l[i]]++
			look(l[i])
		}
	}
	look(f)
	for _, n := range seen {
		if n > 1 {
			t.Errorf("%s: a place stands there %d times", show(f), n)
		}
	}
}

func TestAnswersAreApart(t *testing.T) {
	for _, text := range []string{"a & b & c & d & e", "! [X,Y,Z] : (p(X,X,X) <= q(f(X,Y),f(X,Y)))", "(a ~| b) ~& (X != Y)", "~ (a <=> b) => (c <~> $true)", "p(a,b,c) | X = f(a,b,c) | $false"} {
		one, _, _ := formula.Parse(text)
		two, _, _ := formula.Parse(text)
		apart(t, one)
		apart(t, and(one, two))
		kept := show(two)
		spoil(one)
		if show(two) != kept {
			t.Error(text)
		}
		l := cut(t, text)
		three, _, _ := formula.Read(l, 0)
		spoil(three)
		four, _, _ := formula.Read(l, 0)
		for i := range l {
			l[i] = api.Token{Kind: 77, Text: "spoilt"}
		}
		if show(four) != kept {
			t.Error(text)
		}
	}
	f := big()
	names, symbols := formula.Free(f), formula.Symbols(f)
	for i := range names[:cap(names)] {
		names[:cap(names)][i] = "Spoilt"
	}
	for i := range symbols[:cap(symbols)] {
		symbols[:cap(symbols)][i] = api.Sym{Name: "spoilt"}
	}
	heldTree(t, f)
	if f := all("X Y Z", atom("p", v("X"))); len(formula.Free(f)) > 0 || show(f) != show(all("X Y Z", atom("p", v("X")))) {
		t.Error(show(f))
	}
}

// TestTheSameAgain: nothing is kept from call to call, nor between those that go on at the same time.
func TestTheSameAgain(t *testing.T) {
	f := big()
	text, _ := formula.Text(f)
	var going sync.WaitGroup
	for range 8 {
		going.Go(func() {
			for range 50 {
				parses(t, text, f)
				faulty(t, text+" )", len(text)+1, api.ErrForm)
				faulty(t, "! [X,X] : "+text, 0, api.ErrArg)
				heldTree(t, f)
				checks(t, f, api.OK)
				checks(t, not(api.Form{}), api.ErrArg)
			}
		})
	}
	going.Wait()
}

// TestDeepAndLong: far beyond what may be, all calls end.
func TestDeepAndLong(t *testing.T) {
	soon(t, func() {
		deep := all("X", atom("p", v("X"), v("Y")))
		term := v("X")
		for range 60000 {
			deep = not(deep)
			term = of("f", term)
		}
		long := form(api.FormAnd, many(200000, eq(v("X"), of("a")))...)
		mixed := api.Form{Op: -5, Vars: many(100000, "X"), Terms: []api.Expr{term, of("", many(100000, term.Args[0].Args[0].Args[0])[:3]...)}, Args: []api.Form{long, deep}}
		for _, f := range []api.Form{deep, long, eq(term, term), mixed, all("X", mixed)} {
			checks(t, f, api.ErrLong)
			checks(t, not(f), api.ErrLong)
			if !formula.Same(f, f) || formula.Same(f, not(f)) {
				t.Error("same")
			}
			for g := range formula.Parts(f) {
				if g.Op != f.Op {
					t.Error(g.Op)
				}
				break
			}
		}
		sized(t, deep, 60000+2+4)
		sized(t, eq(term, term), 2*60001+1)
		sized(t, long, 600001)
		free(t, deep, "Y")
		free(t, eq(term, term), "X")
		free(t, mixed, "X", "Y")
		free(t, all("X", mixed), "Y")
		if l := formula.Symbols(mixed); !slices.Equal(l, []api.Sym{{Name: "f", Arity: 1}, {Arity: 3}, {Name: "a"}, {Name: "p", Arity: 2, Pred: true}}) {
			t.Error(l)
		}
		if n := len(parts(long)); n != 200001 {
			t.Error(n)
		}
	})
}

// TestDeepAndLongLists: of tokens that no text has room for.
func TestDeepAndLongLists(t *testing.T) {
	soon(t, func() {
		sign := func(s string) api.Token { return api.Token{Kind: api.TokSign, Text: s} }
		a := api.Token{Kind: api.TokLower, Text: "a"}
		const n = 60000
		fails(t, append(many(n, sign("~")), a), 0, 0, api.ErrLong)
		fails(t, many(n, sign("~")), 0, n-1, api.ErrForm)
		fails(t, many(n, sign("(")), 5, n-1, api.ErrForm)
		fails(t, append(many(n, sign("(")), a), 0, n, api.ErrForm)
		reads(t, append(append(many(n, sign("(")), a), many(n, sign(")"))...), 0, atom("a"), 2*n+1)
		reads(t, append(append(many(n, sign("(")), a), many(n, sign(")"))...), n-1, atom("a"), n+2)
		fails(t, append(many(n, sign("!")), a), 7, 8, api.ErrForm)
		row := slices.Repeat([]api.Token{a, sign("&")}, n)
		fails(t, row, 0, 2*n-1, api.ErrForm)
		fails(t, append(row, a), 2, 2, api.ErrLong)
		reads(t, append(row, a), 2*n-4, and(atom("a"), atom("a"), atom("a")), 2*n+1)
		fails(t, append(row, sign("|")), 0, 2*n, api.ErrForm)
		fails(t, append(slices.Repeat([]api.Token{a, sign("(")}, n), a), 0, 2*n, api.ErrForm)
	})
}

// TestOtherAnswersAreZero beside an error.
func TestOtherAnswersAreZero(t *testing.T) {
	for _, f := range []api.Form{{}, not(api.Form{}), and(many(400, yes())...)} {
		if text, e := formula.Text(f); text != "" || e == api.OK {
			t.Error(text, e)
		}
	}
	faulty(t, "a & b & ! [X] : p(X", 19, api.ErrForm)
	faulty(t, "a & b) & c", 5, api.ErrForm)
	faulty(t, strings.Repeat("a & ", 200)+"a", 0, api.ErrLong)
}
