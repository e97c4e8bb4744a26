package formula_test

import (
	"math"
	"math/rand"
	"slices"
	"strings"
	"testing"
	"time"

	"syllogism/api"
	"syllogism/formula"
)

// equals wants what Same tells, both ways round, and within other formulas.
func equals(t *testing.T, f, g api.Form, want bool) {
	t.Helper()
	for _, l := range [][2]api.Form{{f, g}, {g, f}, {not(f), not(g)}, {and(yes(), f), and(yes(), g)}, {all("X", f), all("X", g)}} {
		if formula.Same(l[0], l[1]) != want {
			t.Errorf("%.300s and %.300s: not %v", show(l[0]), show(l[1]), want)
		}
	}
}

func TestSame(t *testing.T) {
	l := each()
	for i, f := range l {
		for j, g := range each() {
			equals(t, f, g, i == j)
		}
	}
	x := v("X")
	p := atom("p", x, of("a"))
	for _, g := range []api.Form{
		atom("p", of("X"), of("a")), atom("p", v("Y"), of("a")), atom("q", x, of("a")), atom("p", of("a"), x), atom("p", x), atom("p", x, of("a"), of("a")), atom("p", x, of("b")), atom("p", x, of("a", x)), atom("p"),
		{Op: api.FormEq, Terms: p.Terms}, {Op: api.FormAtom, Terms: p.Terms, Vars: []string{"X"}}, {Op: api.FormAtom, Terms: append(p.Terms, x)}, {Op: api.FormAtom, Terms: p.Terms, Args: []api.Form{yes()}},
		{Op: api.FormAtom}, {Op: api.FormAtom, Terms: []api.Expr{{Var: true, Name: "p", Args: p.Terms[0].Args}}}, {},
	} {
		equals(t, p, g, false)
		equals(t, g, g, true)
	}
	equals(t, all("X Y", p), all("Y X", p), false)
	equals(t, all("X Y", p), all("X", p), false)
	equals(t, all("X", p), some("X", p), false)
	equals(t, all("X", atom("p", x)), all("Y", atom("p", v("Y"))), false)
	equals(t, and(yes(), no()), and(no(), yes()), false)
	equals(t, and(yes(), no(), no()), and(yes(), no()), false)
	equals(t, and(and(yes(), no()), no()), and(yes(), and(no(), no())), false)
	equals(t, eq(of("a"), x), eq(x, of("a")), false)
}

// TestSameOfNilAndEmpty: everywhere.
func TestSameOfNilAndEmpty(t *testing.T) {
	empty := api.Form{Op: api.FormTrue, Vars: []string{}, Terms: []api.Expr{}, Args: []api.Form{}}
	equals(t, empty, yes(), true)
	equals(t, empty, no(), false)
	equals(t, api.Form{Vars: []string{}}, api.Form{Args: []api.Form{}}, true)
	a := api.Expr{Name: "a", Args: []api.Expr{}}
	equals(t, eq(a, nest(5, a)), eq(of("a"), nest(5, of("a"))), true)
	equals(t, api.Form{Terms: []api.Expr{}}, api.Form{Terms: []api.Expr{{}}}, false)
	equals(t, api.Form{Vars: []string{}}, api.Form{Vars: []string{""}}, false)
	equals(t, api.Form{Args: []api.Form{}}, api.Form{Args: []api.Form{{}}}, false)
	equals(t, eq(api.Expr{Args: []api.Expr{}}, a), eq(api.Expr{Args: []api.Expr{{}}}, a), false)
}

// TestSameAnyhow: held against how they are shown; shared lists and such as are made anew.
func TestSameAnyhow(t *testing.T) {
	r := rand.New(rand.NewSource(132))
	yes, no := 0, 0
	var last []api.Form
	for range 4000 {
		f := strange(r, 1+r.Intn(3), r.Intn(2) == 0)
		for _, g := range append(last, f) {
			want := same(f, g)
			if formula.Same(f, g) != want || formula.Same(g, f) != want {
				t.Errorf("%s and %s: not %v", show(f), show(g), want)
			}
			if want {
				yes++
			} else {
				no++
			}
		}
		last = append(last[max(0, len(last)-30):], f, changed(r, f))
	}
	if yes < 4000 || no < 10000 {
		t.Error(yes, no)
	}
}

// changed is a formula of which something is another one, or nothing.
func changed(r *rand.Rand, f api.Form) api.Form {
	f.Args, f.Terms, f.Vars = slices.Clone(f.Args), slices.Clone(f.Terms), slices.Clone(f.Vars)
	switch n := r.Intn(8); {
	case n == 0:
		f.Op++
	case n == 1:
		f.Vars = append(f.Vars, "X")
	case n == 2:
		f.Terms = append(f.Terms, of("a"))
	case n == 3 && len(f.Terms) > 0:
		i := r.Intn(len(f.Terms))
		f.Terms[i].Args = append(slices.Clone(f.Terms[i].Args), v("X"))
	case n == 4 && len(f.Terms) > 0:
		i := r.Intn(len(f.Terms))
		f.Terms[i].Var = !f.Terms[i].Var
	case len(f.Args) > 0:
		i := r.Intn(len(f.Args))
		f.Args[i] = changed(r, f.Args[i])
	}
	return f
}

func TestSizes(t *testing.T) {
	x := v("X")
	for f, want := range map[*api.Form]int{
		ptr(yes()): 1, ptr(atom("p")): 2, ptr(atom("p", x, of("f", x, of("a")))): 6, ptr(eq(x, x)): 3, ptr(not(eq(x, of("f", x)))): 5, ptr(all("X Y", atom("p", x))): 6,
		ptr(some("X", all("Y", yes()))): 5, ptr(and(yes(), atom("p"), not(no()))): 6, {}: 1, ptr(api.Form{Vars: []string{"", "", "X"}, Terms: []api.Expr{{}, {Args: many(9, x)}}, Args: []api.Form{{}, {}}}): 1 + 3 + 1 + 10 + 2,
		ptr(eq(api.Expr{Var: true, Args: []api.Expr{x, x}}, x)): 5, ptr(implies(implies(yes(), no()), iff(no(), xor(no(), yes())))): 9,
	} {
		if got := formula.Size(*f); got != want {
			t.Errorf("%s: %d, not %d", show(*f), got, want)
		}
	}
}

// sized wants a size, soon.
func sized(t *testing.T, f api.Form, want int) {
	t.Helper()
	if got := formula.Size(f); got != want {
		t.Errorf("%d, not %d", got, want)
	}
}

// TestSizeOfWhatIsShared: parts that stand in a formula twice lie there once. Up to 2^31 - 1 they are counted, and no further.
func TestSizeOfWhatIsShared(t *testing.T) {
	const most = math.MaxInt32
	f, g, x := yes(), all("X Y", atom("p", v("X"))), of("a")
	sizeF, sizeG, sizeX := 1, 6, 1
	for range 45 {
		sized(t, f, sizeF)
		sized(t, g, sizeG)
		sized(t, eq(x, v("X")), min(most, sizeX+2))
		sized(t, eq(v("X"), x), min(most, sizeX+2))
		f, sizeF = and(f, f), min(most, 1+2*sizeF)
		x, sizeX = of("f", x, v("X"), x, x), min(most, 2+3*sizeX)
		g = api.Form{Op: api.FormAll, Vars: []string{"X", "Y"}, Terms: []api.Expr{x}, Args: []api.Form{yes(), g, g, g, no(), g}}
		sizeG = min(most, 1+2+sizeX+1+3*sizeG+1+sizeG)
	}
	f, sizeF = yes(), 1
	for range 30 {
		f, sizeF = and(f, f), 1+2*sizeF
	}
	if sizeF != most {
		t.Fatal(sizeF)
	}
	sized(t, f, most)
	sized(t, f.Args[1], most/2)
	sized(t, and(f.Args[0], f.Args[0].Args[0], f.Args[0].Args[0]), most-1)
	sized(t, or(f, yes()), most)
	sized(t, or(yes(), f), most)
}

// TestSizeOfWhatIsSharedApart: not in members one behind the other.
func TestSizeOfWhatIsSharedApart(t *testing.T) {
	f, x := atom("p", v("X")), of("a")
	sizeF, sizeX := 3, 1
	for range 15 {
		f, sizeF = implies(f, not(f)), 2+2*sizeF
		sized(t, f, sizeF)
		x, sizeX = of("f", x, of("g", x)), 2+2*sizeX
		sized(t, eq(x, x), 1+2*sizeX)
	}
}

// TestSizeOfLongLists: of few kinds of members, or of one.
func TestSizeOfLongLists(t *testing.T) {
	const most = math.MaxInt32
	wide := form(api.FormOr, many(1<<15, form(api.FormAnd, many(1<<16-2, yes())...))...)
	sized(t, wide, 1<<15*(1<<16-1)+1)
	wide.Args = wide.Args[1:]
	sized(t, wide, (1<<15-1)*(1<<16-1)+1)
	wide.Vars = many(most-1-(1<<15-1)*(1<<16-1)-1, "")
	sized(t, wide, most-1)
	sized(t, not(wide), most)
	sized(t, not(not(wide)), most)
	wide.Terms = []api.Expr{of("a")}
	sized(t, wide, most)
	wide.Terms = many(1<<16, of("a", of("b")))
	sized(t, wide, most)
	wide = api.Form{Op: 99, Vars: many(1<<20, ""), Terms: many(1<<20, of("a", v("X"))), Args: many(1<<18, atom("p", v("Y")))}
	sized(t, wide, 1+1<<20+2<<20+3<<18)
}

// TestSharedPartsInOtherCalls: what is no longer than in memory but large as it is read is soon told, too.
func TestSharedPartsInOtherCalls(t *testing.T) {
	soon(t, func() {
		build := func() api.Form {
			x := of("f", v("X"), of("a"))
			for range 50 {
				x = of("g", x, x)
			}
			f := or(atom("p", x, v("Y")), eq(v("Z"), x))
			for range 50 {
				f = and(f, f)
				f = all("Z", f)
			}
			return iff(f, atom("f", v("Z")))
		}
		f := build()
		checks(t, f, api.ErrLong)
		free(t, f, "X", "Y", "Z")
		free(t, all("X Y Z", f))
		want := []api.Sym{{Name: "p", Arity: 2, Pred: true}, {Name: "g", Arity: 2}, {Name: "f", Arity: 2}, {Name: "a"}, {Name: "f", Arity: 1, Pred: true}}
		if got := formula.Symbols(f); !slices.Equal(got, want) {
			t.Error(got)
		}
		if !formula.Same(f, f) || !formula.Same(f, build()) || formula.Same(f, not(f)) || formula.Same(f, f.Args[0]) {
			t.Error("same")
		}
		for range 50 {
			f = xor(f, not(f), eq(v("X"), of("a")))
		}
		if !formula.Same(f, f) || !formula.Same(not(f), not(f)) {
			t.Error("same")
		}
	})
}

// soon wants an end.
func soon(t *testing.T, call func()) {
	t.Helper()
	done := make(chan struct{})
	go func() {
		defer close(done)
		call()
	}()
	select {
	case <-done:
	case <-time.After(2 * time.Minute):
		t.Fatal("no end")
	}
}

func TestFree(t *testing.T) {
	x, y, z := v("X"), v("Y"), v("Z")
	px, qxy := atom("p", x), atom("q", x, y)
	free(t, or(px, all("X", qxy)), "X", "Y")
	free(t, yes())
	free(t, atom("p", of("X")))
	free(t, px, "X")
	free(t, eq(y, x), "Y", "X")
	free(t, atom("p", z, of("f", y, x, z), y), "Z", "Y", "X")
	free(t, implies(all("X", px), px), "X")
	free(t, implies(px, all("X", px)), "X")
	free(t, all("X", implies(px, some("X", px))))
	free(t, all("X", and(some("X", qxy), px)), "Y")
	free(t, all("X", all("X", px)))
	free(t, or(all("X", all("X", px)), px), "X")
	free(t, and(all("X", px), some("Y", qxy), atom("p", y)), "X", "Y")
	free(t, all("Y", px), "X")
	free(t, all("Y Z", some("Y", qxy)), "X")
	free(t, all("X Y", qxy))
	free(t, all("Y X", not(qxy)))
	free(t, and(eq(x, x), eq(y, x), eq(x, y)), "X", "Y")
	free(t, iff(all("X", or(qxy, atom("p", z))), eq(z, x)), "Y", "Z", "X")
	free(t, some("X", xor(px, all("Z", eq(z, of("f", y, x))))), "Y")
	free(t, not(not(not(eq(of("f", y), z)))), "Y", "Z")
}

// TestFreeOfAnyFormulas: such as may not be, too; what binds is Vars of an All or Some, whatever it has.
func TestFreeOfAnyFormulas(t *testing.T) {
	x, y := v("X"), v("Y")
	px := atom("p", x)
	free(t, api.Form{})
	free(t, api.Form{Op: api.FormAll, Vars: []string{"X"}, Terms: []api.Expr{x, y}, Args: []api.Form{atom("q", y, x, v("Z"))}}, "X", "Y", "Z")
	free(t, api.Form{Op: api.FormSome, Vars: []string{"X"}, Terms: []api.Expr{x}}, "X")
	free(t, all("X", api.Form{Op: api.FormSome, Vars: []string{"Y"}, Terms: []api.Expr{x, y}}), "Y")
	for _, op := range []api.FormOp{0, -1, api.FormTrue, api.FormAtom, api.FormNot, api.FormAnd, 13, math.MaxInt} {
		free(t, api.Form{Op: op, Vars: []string{"X"}, Args: []api.Form{px, all("Y", atom("q", y, x))}}, "X")
		free(t, api.Form{Op: op, Terms: []api.Expr{y, x}, Args: []api.Form{px, atom("p", v("A"))}}, "Y", "X", "A")
		free(t, all("Y", api.Form{Op: op, Terms: []api.Expr{y, x}, Args: []api.Form{atom("p", v("A"))}}), "X", "A")
	}
	for _, op := range []api.FormOp{api.FormAll, api.FormSome} {
		free(t, api.Form{Op: op, Vars: []string{"X", "X"}, Args: []api.Form{px, atom("p", y), px}}, "Y")
		free(t, or(api.Form{Op: op, Vars: []string{"X", "X", "Y"}, Args: []api.Form{px, px}}, px), "X")
		free(t, api.Form{Op: op, Args: []api.Form{px, px}}, "X")
		free(t, api.Form{Op: op, Vars: []string{""}, Args: []api.Form{atom("p", v(""), v("x"))}}, "x")
	}
	free(t, eq(api.Expr{Var: true, Name: "B", Args: []api.Expr{y, of("C"), x}}, x), "B", "Y", "X")
	free(t, all("B", eq(api.Expr{Var: true, Name: "B", Args: []api.Expr{y, x}}, x)), "Y", "X")
	free(t, eq(v(""), v("a b")), "", "a b")
	free(t, or(px, api.Form{Op: api.FormNot}, eq(of("", y), v("\xff"))), "X", "Y", "\xff")
}

// plainFree tells of each variable that stands in the formula whether one of those around has it.
func plainFree(f api.Form, around []string) []string {
	var l []string
	var look func(t api.Expr)
	look = func(t api.Expr) {
		if t.Var && !slices.Contains(around, t.Name) && !slices.Contains(l, t.Name) {
			l = append(l, t.Name)
		}
		for _, a := range t.Args {
			look(a)
		}
	}
	for _, t := range f.Terms {
		look(t)
	}
	if f.Op == api.FormAll || f.Op == api.FormSome {
		around = append(slices.Clone(around), f.Vars...)
	}
	for _, g := range f.Args {
		for _, x := range plainFree(g, around) {
			if !slices.Contains(l, x) {
				l = append(l, x)
			}
		}
	}
	return l
}

func plainParts(f api.Form) []api.Form {
	l := []api.Form{f}
	for _, g := range f.Args {
		l = append(l, plainParts(g)...)
	}
	return l
}

func plainSymbols(f api.Form) []api.Sym {
	var l []api.Sym
	var look func(t api.Expr, pred bool)
	look = func(t api.Expr, pred bool) {
		if !t.Var {
			s := api.Sym{Name: t.Name, Arity: len(t.Args), Pred: pred}
			if !slices.Contains(l, s) {
				l = append(l, s)
			}
		}
		for _, a := range t.Args {
			look(a, false)
		}
	}
	for _, g := range plainParts(f) {
		for _, t := range g.Terms {
			look(t, g.Op == api.FormAtom)
		}
	}
	return l
}

// heldTree holds Free, Parts and Symbols against the plain second ways.
func heldTree(t *testing.T, f api.Form) {
	t.Helper()
	free(t, f, plainFree(f, nil)...)
	if got, want := formula.Symbols(f), plainSymbols(f); !slices.Equal(got, want) {
		t.Errorf("%.300s: %v, not %v", show(f), got, want)
	}
	if !slices.EqualFunc(parts(f), plainParts(f), same) {
		t.Errorf("%.300s: parts %v", show(f), parts(f))
	}
}

func TestTreesAnyhow(t *testing.T) {
	r := rand.New(rand.NewSource(133))
	for range 6000 {
		f := strange(r, 1+r.Intn(5), r.Intn(2) == 0)
		heldTree(t, f)
		heldTree(t, implies(f, f))
		heldTree(t, and(f, changed(r, f), f))
	}
	for _, f := range each() {
		heldTree(t, f)
	}
}

func TestSymbols(t *testing.T) {
	x, a := v("X"), of("a")
	for want, l := range map[string][]api.Form{
		"":                     {yes(), {}, all("X", not(no())), eq(x, v("Y")), {Op: api.FormAll, Vars: []string{"a"}}},
		"p/0p":                 {atom("p"), and(atom("p"), not(atom("p")))},
		"a/0":                  {eq(a, a), eq(x, a), eq(a, x), {Op: 99, Terms: []api.Expr{a}}, {Op: api.FormTrue, Terms: []api.Expr{a, x}}},
		"p/1p a/0":             {atom("p", a), or(atom("p", a), eq(a, x)), or(atom("p", x), eq(a, x))},
		"f/2 g/1 a/0 b/0":      {eq(of("f", of("g", a), of("b")), a), eq(of("f", of("g", x), a), of("b"))},
		"p/1p p/0 p/1 p/2 p/3": {and(atom("p", of("p")), eq(of("p", x), of("p", x, of("p", x, x, x))))},
		"f/1 f/1p":             {and(eq(of("f", x), x), atom("f", x)), {Op: api.FormNot, Terms: []api.Expr{of("f", x)}, Args: []api.Form{atom("f", x)}}},
		"p/0p q/0p a/0":        {implies(atom("p"), and(atom("q"), eq(x, a), atom("p"))), {Op: api.FormAtom, Terms: []api.Expr{of("p"), of("q")}, Args: []api.Form{eq(a, x)}}},
		"a/0 b/0":              {eq(api.Expr{Var: true, Name: "f", Args: []api.Expr{a, of("b")}}, x), {Op: api.FormAtom, Terms: []api.Expr{{Var: true, Name: "p", Args: []api.Expr{a, x, of("b")}}}}},
		"f/7 /0":               {eq(of("f", many(7, of(""))...), x)},
		"X/0p Y/0":             {all("X", or(atom("X"), eq(of("Y"), x)))},
	} {
		for _, f := range l {
			var got []string
			for _, s := range formula.Symbols(f) {
				text := s.Name + "/" + string(rune('0'+s.Arity))
				if s.Pred {
					text += "p"
				}
				got = append(got, text)
			}
			if strings.Join(got, " ") != want {
				t.Errorf("%s: %v, not %s", show(f), got, want)
			}
		}
	}
}

func TestParts(t *testing.T) {
	p, q := atom("p"), atom("q", v("X"))
	for f, want := range map[*api.Form][]api.Form{
		ptr(p):                  {p},
		{}:                      {{}},
		ptr(not(not(p))):        {not(not(p)), not(p), p},
		ptr(and(p, q, p)):       {and(p, q, p), p, q, p},
		ptr(all("X", or(q, p))): {all("X", or(q, p)), or(q, p), q, p},
		ptr(implies(iff(p, not(q)), xor(q, yes()))):                                         {implies(iff(p, not(q)), xor(q, yes())), iff(p, not(q)), p, not(q), q, xor(q, yes()), q, yes()},
		ptr(api.Form{Op: 77, Args: []api.Form{{Op: api.FormAtom, Args: []api.Form{p}}, q}}): {{Op: 77, Args: []api.Form{{Op: api.FormAtom, Args: []api.Form{p}}, q}}, {Op: api.FormAtom, Args: []api.Form{p}}, p, q},
	} {
		if got := parts(*f); !slices.EqualFunc(got, want, same) {
			t.Errorf("%s: %v", show(*f), got)
		}
	}
}

// TestPartsLeftEarly: behind any part; it may be gone over again, and then tells all.
func TestPartsLeftEarly(t *testing.T) {
	for _, f := range append(each(), implies(iff(yes(), not(no())), xor(all("X", or(no(), atom("p"))), yes())), api.Form{}) {
		seq := formula.Parts(f)
		want := plainParts(f)
		for n := 1; n <= len(want); n++ {
			var got []api.Form
			for g := range seq {
				got = append(got, g)
				if len(got) == n {
					break
				}
			}
			if !slices.EqualFunc(got, want[:n], same) {
				t.Errorf("%s up to %d: %v", show(f), n, got)
			}
			asked := 0
			seq(func(api.Form) bool {
				asked++
				return asked < n
			})
			if asked != n {
				t.Error(show(f), n, asked)
			}
		}
		for range 3 {
			if got := slices.Collect(seq); !slices.EqualFunc(got, want, same) {
				t.Errorf("%s again: %v", show(f), got)
			}
		}
		i := 0
		for g := range seq { // one within the other
			if got := slices.Collect(seq); !same(g, want[i]) || !slices.EqualFunc(got, want, same) {
				t.Error(show(f), i)
			}
			i++
		}
	}
}
