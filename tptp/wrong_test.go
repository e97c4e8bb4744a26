package tptp_test

import (
	"math/rand"
	"slices"
	"strings"
	"sync"
	"testing"
	"time"

	"syllogism/api"
	"syllogism/tptp"
)

// soon wants it to end.
func soon(t *testing.T, do func()) {
	t.Helper()
	done := make(chan int)
	go func() {
		defer close(done)
		do()
	}()
	select {
	case <-done:
	case <-time.After(60 * time.Second):
		t.Fatal("it does not end")
	}
}

// roomy is a formula with spare room behind each list, and something in it.
func roomy(f api.Form) api.Form {
	var wide func(x api.Expr) api.Expr
	wide = func(x api.Expr) api.Expr {
		return api.Expr{Var: x.Var, Name: x.Name, Args: room(x.Args, wide, api.Expr{Name: "spare"})}
	}
	return api.Form{
		Op:    f.Op,
		Vars:  room(f.Vars, func(s string) string { return s }, "Spare"),
		Terms: room(f.Terms, wide, api.Expr{Name: "spare"}),
		Args:  room(f.Args, roomy, api.Form{Op: api.FormFalse}),
	}
}

func room[E any](l []E, change func(E) E, spare E) []E {
	out := make([]E, 0, len(l)+2)
	for _, x := range l {
		out = append(out, change(x))
	}
	out = append(out, spare, spare)
	return out[:len(l)]
}

func roomyEntries(l []api.Entry) []api.Entry {
	return room(l, func(x api.Entry) api.Entry {
		x.Form = roomy(x.Form)
		return x
	}, fof("spare", "axiom", "spare"))
}

// full is a formula with all its spare room laid open.
func full(f api.Form) api.Form {
	var wide func(x api.Expr) api.Expr
	wide = func(x api.Expr) api.Expr {
		return api.Expr{Var: x.Var, Name: x.Name, Args: mapped(x.Args[:cap(x.Args)], wide)}
	}
	return api.Form{Op: f.Op, Vars: f.Vars[:cap(f.Vars)], Terms: mapped(f.Terms[:cap(f.Terms)], wide), Args: mapped(f.Args[:cap(f.Args)], full)}
}

func fullEntries(l []api.Entry) []api.Entry {
	return mapped(l[:cap(l)], func(x api.Entry) api.Entry {
		x.Form = full(x.Form)
		return x
	})
}

func mapped[E any](l []E, change func(E) E) []E {
	var out []E
	for _, x := range l {
		out = append(out, change(x))
	}
	return out
}

// spoilForm writes into all of a formula's lists, spare room too.
func spoilForm(f api.Form) {
	vars := f.Vars[:cap(f.Vars)]
	for i := range vars {
		vars[i] = "Spoilt"
	}
	spoilTerms(f.Terms)
	args := f.Args[:cap(f.Args)]
	for i := range args {
		spoilForm(args[i])
		args[i] = api.Form{Op: 77}
	}
}

func spoilTerms(l []api.Expr) {
	l = l[:cap(l)]
	for i := range l {
		spoilTerms(l[i].Args)
		l[i] = api.Expr{Var: true, Name: "Spoilt"}
	}
}

func spoilEntries(l []api.Entry) {
	l = l[:cap(l)]
	for i := range l {
		spoilForm(l[i].Form)
		l[i] = api.Entry{Name: "spoilt"}
	}
}

func big() []api.Entry {
	return []api.Entry{
		fof("a", "axiom", "! [X,Y] : (p(X,f(Y,a)) & X != f(X,X) & ? [Z] : (q(Z,Z) | $true))"),
		cnf("b", "axiom", "p(X,f(Y,a)) | ~ q(X,X) | X != f(f(a,b),a) | $false"),
		fof("c", "conjecture", "p(a,b) <=> ~ (a = b)"),
		cnf("a", "plain", "~ p(X,X)"),
		fof("d", "axiom", "p => (q <=> r)"),
	}
}

func TestNothingIsChanged(t *testing.T) {
	l := roomyEntries(big())
	before := showEntries(fullEntries(l))
	for _, x := range l {
		if e := tptp.Check(x); e != api.OK {
			t.Error(e)
		}
		literals, _ := tptp.Literals(x.Form)
		for _, f := range literals {
			spoilForm(f)
		}
		spoilForm(form(api.FormAnd, literals[:cap(literals)]...))
	}
	if text, e := tptp.Text(l); e != api.OK || strings.Contains(text, "spare") {
		t.Error(text, e)
	}
	for _, x := range tptp.Role(l, "axiom") {
		spoilForm(x.Form)
	}
	if after := showEntries(fullEntries(l)); after != before {
		t.Error(after)
	}
	files := append(make([]api.File, 0, 8), file("f", facts("f", 3)), file("g", "include('f',[f1])."), file("h", "fof("))
	copies := slices.Clone(files[:cap(files)])
	for _, text := range []string{"include('g').", "include('h').", "include('f'). include('f',[f2,f0])."} {
		got, _, _ := tptp.Read(text, files)
		spoilEntries(got)
	}
	faulty(t, "include('spare').", append(files, file("spare", ""))[:3], -1, 8, api.ErrMissing)
	if copies[3] = file("spare", ""); !slices.Equal(files[:cap(files)], copies) {
		t.Error(files[:cap(files)])
	}
}

// TestSpareRoomIsNotLookedAt: what lies behind a list is none of it.
func TestSpareRoomIsNotLookedAt(t *testing.T) {
	l := roomyEntries(big())
	text, e := tptp.Text(big())
	if e != api.OK {
		t.Fatal(e)
	}
	writes(t, text, l...)
	goes(t, l, "axiom", 0, 1, 4)
	for i, x := range big() {
		want, ok := plainLiterals(x.Form)
		literals(t, l[i].Form, want, ok)
	}
	refused(t, api.OK, l[:0]...)
}

// TestRoleIsOfWhatThereWas: it tells what the entries were when it was called, and what it hands over is the caller's own.
func TestRoleIsOfWhatThereWas(t *testing.T) {
	l := roomyEntries(big())
	seq := tptp.Role(l, "axiom")
	none := tptp.Role(l, "lemma")
	spoilEntries(l)
	l[0] = fof("x", "lemma", "p")
	want := showEntries([]api.Entry{big()[0], big()[1], big()[4]})
	for range 3 {
		var got []api.Entry
		for _, x := range seq {
			got = append(got, x)
		}
		if showEntries(got) != want {
			t.Error(showEntries(got))
		}
		apart(t, got)
		spoilEntries(got)
	}
	for i, x := range none {
		t.Error(i, x)
	}
}

// apart wants no list of the entries to lie where another one does, spare room too.
func apart(t *testing.T, l []api.Entry) {
	t.Helper()
	seen := map[any]int{}
	var terms func(l []api.Expr)
	terms = func(l []api.Expr) {
		l = l[:cap(l)]
		for i := range l {
			seen[&l[i]]++
			terms(l[i].Args)
		}
	}
	var look func(f api.Form)
	look = func(f api.Form) {
		vars := f.Vars[:cap(f.Vars)]
		for i := range vars {
			seen[&vars[i]]++
		}
		terms(f.Terms)
		args := f.Args[:cap(f.Args)]
		for i := range args {
			seen[&args[i]]++
			look(args[i])
		}
	}
	l = l[:cap(l)]
	for i := range l {
		seen[&l[i]]++
		look(l[i].Form)
	}
	for _, n := range seen {
		if n > 1 {
			t.Errorf("%.300s: a place stands there %d times", showEntries(l), n)
		}
	}
}

// asEntries lays formulas where apart and spoilEntries find them.
func asEntries(l []api.Form) []api.Entry {
	var out []api.Entry
	for _, f := range l {
		out = append(out, api.Entry{Form: f})
	}
	return out
}

func TestAnswersAreApart(t *testing.T) {
	files := []api.File{file("f", "fof(a,axiom,! [X] : (p(X,a) & q)). fof(b,axiom,p | q | r). cnf(c,plain,p(X) | X = f(X,X))."), file("g", "include('f'). include('f',[c,a]).")}
	const text = "include('f'). fof(z,plain,p & q & r). include('f',[b]). include('g'). include('g',[b])."
	one, _, e := tptp.Read(text, files)
	if e != api.OK || names(one) != "a b c z b a b c a c b" {
		t.Fatal(names(one), e)
	}
	two, _, _ := tptp.Read(text, files)
	apart(t, one)
	apart(t, append(slices.Clip(one[:cap(one)]), two[:cap(two)]...))
	for _, x := range one[len(one):cap(one)] {
		if showEntry(x) != showEntry(api.Entry{}) {
			t.Error("left out, but there:", showEntry(x))
		}
	}
	kept := showEntries(two)
	spoilEntries(one)
	for i := range files {
		files[i] = file("x", "#")
	}
	if showEntries(two) != kept {
		t.Error(showEntries(two))
	}
	x, y := api.Expr{Var: true, Name: "X"}, []api.Expr{{Name: "f"}, {Name: "f"}}
	y[1].Args = y[:1]
	f := api.Form{Op: api.FormEq, Terms: append(y, x)}
	g := form(api.FormOr, f, f, form(api.FormNot, f))
	first, _ := tptp.Literals(g)
	second, _ := tptp.Literals(g)
	apart(t, asEntries(append(first, second...)))
	shown := showForms(second)
	spoilEntries(asEntries(first))
	clear(first[:cap(first)])
	literals(t, g, g.Args, true)
	if showForms(second) != shown {
		t.Error(showForms(second))
	}
	shared := []api.Entry{{Role: "plain", Form: g}, {Role: "plain", Form: g}}
	var all []api.Entry
	for _, x := range tptp.Role(shared, "plain") {
		all = append(all, x)
	}
	apart(t, all)
}

// TestTheSameAgain: nothing is kept from call to call, nor between those that go on at the same time.
func TestTheSameAgain(t *testing.T) {
	files := []api.File{file("f", facts("f", 150)), file("g", strings.Repeat("include('f',[f3]).", 100)), file("self", "include('self').")}
	l := big()
	text, _ := tptp.Text(l)
	seq := tptp.Role(l, "axiom")
	var going sync.WaitGroup
	for range 8 {
		going.Go(func() {
			for range 20 {
				reads(t, text, files, l...)
				faulty(t, "include('self').", files, 2, 8, api.ErrCycle)
				faulty(t, "include('g').", files, 0, last(facts("f", 150)), api.ErrLong)
				count(t, strings.Repeat("include('f',[f3]).", 51), files, 51)
				n := 0
				for i, x := range seq {
					if showEntry(x) != showEntry(l[i]) {
						t.Error(showEntry(x))
					}
					n++
				}
				if n != 3 {
					t.Error(n)
				}
				goes(t, l, "plain", 3)
			}
		})
	}
	going.Wait()
}

// TestFarBeyondTheLimits: all calls end.
func TestFarBeyondTheLimits(t *testing.T) {
	soon(t, func() {
		deep := parsed("p(X)")
		shared := parsed("p(X)")
		for range 60000 {
			deep = form(api.FormNot, deep)
		}
		for range 100 {
			shared = form(api.FormOr, shared, shared)
		}
		wide := form(api.FormOr, many(200000, parsed("~ p(X)"))...)
		for _, f := range []api.Form{deep, shared, wide, form(api.FormOr, wide, deep, shared), form(api.FormNot, shared)} {
			for _, clause := range []bool{false, true} {
				checks(t, api.Entry{Cnf: clause, Name: "a", Role: "plain", Form: f}, api.ErrLong)
				checks(t, api.Entry{Cnf: clause, Name: strings.Repeat("a", 1000000), Role: "plain", Form: f}, api.ErrArg)
				goes(t, []api.Entry{{Role: "plain", Form: f}}, "axiom")
			}
		}
		literals(t, deep, nil, false)
		literals(t, shared, nil, false)
		literals(t, wide, wide.Args, true)
		goes(t, many(50000, fof("a", "axiom", "p")), "plain")
		n := 0
		for range tptp.Role(many(50000, fof("a", "axiom", "p")), "axiom") {
			n++
		}
		if n != 50000 {
			t.Error(n)
		}
		files := many(100000, file("f", strings.Repeat("x", 100000)))
		files = append(files, file("g", strings.Repeat("include('h').", 100)), file("h", strings.Repeat("fof(a,plain,p).", 100)))
		faulty(t, "include('f').", files, 0, 0, api.ErrLong)
		faulty(t, "include('g').", files, 100001, 0, api.ErrLong)
		faulty(t, "include('i').", files, -1, 8, api.ErrMissing)
		faulty(t, strings.Repeat("fof(", 1000000), files, -1, 0, api.ErrLong)
		faulty(t, strings.Repeat("(", 8000), nil, -1, 0, api.ErrItem)
		faulty(t, "fof(a,axiom,"+strings.Repeat("(", 7900), nil, -1, 7912, api.ErrForm)
		faulty(t, "fof(a,axiom,"+strings.Repeat("~", 7900)+"p).", nil, -1, 12, api.ErrLong)
	})
}

// TestAnyBytes: no text makes a call go wrong.
func TestAnyBytes(t *testing.T) {
	r := rand.New(rand.NewSource(77))
	for range 20000 {
		b := make([]byte, r.Intn(40))
		for i := range b {
			b[i] = byte(r.Intn(256))
		}
		s := string(b)
		files := []api.File{file("f", s), file(s, "fof(a,axiom,p).")}
		for _, text := range []string{s, "include('f')." + s, "include('" + s + "').", "fof(" + s, "fof(a,axiom," + s + ").", "fof(a," + s + ",p)."} {
			held(t, text, files)
		}
		x := api.Entry{Name: s, Role: "axiom", Form: parsed("p")}
		checks(t, x, plainCheck(x))
		checks(t, api.Entry{Name: "a", Role: s, Form: parsed("p")}, plainCheck(api.Entry{Name: "a", Role: s, Form: parsed("p")}))
	}
}

func TestNilAndEmpty(t *testing.T) {
	reads(t, "", nil)
	reads(t, "", []api.File{})
	faulty(t, "include('f').", nil, -1, 8, api.ErrMissing)
	goes(t, nil, "")
	literals(t, api.Form{}, nil, false)
	checks(t, api.Entry{}, api.ErrArg)
	x := api.Entry{Name: "a", Role: "plain", Form: api.Form{Op: api.FormTrue, Vars: []string{}, Terms: []api.Expr{}, Args: []api.Form{}}}
	checks(t, x, api.OK)
	x.Cnf = true
	checks(t, x, api.OK)
	literals(t, x.Form, []api.Form{{Op: api.FormTrue}}, true)
	refused(t, api.OK)
}
