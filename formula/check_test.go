package formula_test

import (
	"math"
	"math/rand"
	"slices"
	"strings"
	"testing"

	"syllogism/api"
	"syllogism/formula"
	"syllogism/token"
)

// each is a formula of each Op that may be, with as little as the table lets, and then with more.
func each() []api.Form {
	p, x := atom("p"), v("X")
	return []api.Form{
		yes(), no(), p, eq(x, of("a")), not(p), and(p, p), or(p, p), implies(p, p), iff(p, p), xor(p, p), all("X", p), some("X", p),
		atom("p", x), atom("X"), atom("q", x, of("f", x, of("a"))), eq(x, x), eq(of("f", x), v("Y")), not(not(p)),
		and(p, yes(), no()), or(many(20, p)...), all("X Y Z", p), some("Y X", atom("p", x)), all("X", all("X", atom("p", x))),
	}
}

func TestCheckOfEachOp(t *testing.T) {
	for _, f := range each() {
		checks(t, f, api.OK)
	}
	for _, f := range each()[:12] {
		for _, g := range each() {
			if len(f.Args) > 0 {
				f.Args[len(f.Args)-1] = g
				checks(t, f, api.OK)
			}
		}
	}
}

// TestCheckByTheTable: of each Op, all small numbers of Vars, Terms and Args.
func TestCheckByTheTable(t *testing.T) {
	type amount struct{ least, most int }
	none, one, two := amount{0, 0}, amount{1, 1}, amount{2, 2}
	table := map[api.FormOp][3]amount{
		api.FormTrue: {none, none, none}, api.FormFalse: {none, none, none},
		api.FormAtom: {none, one, none}, api.FormEq: {none, two, none}, api.FormNot: {none, none, one},
		api.FormAnd: {none, none, {2, 99}}, api.FormOr: {none, none, {2, 99}},
		api.FormImplies: {none, none, two}, api.FormIff: {none, none, two}, api.FormXor: {none, none, two},
		api.FormAll: {{1, 99}, none, one}, api.FormSome: {{1, 99}, none, one},
	}
	names := []string{"A", "B", "C", "D", "E"}
	for op := api.FormOp(-3); op < 20; op++ {
		for n := range 5 * 5 * 5 {
			f := api.Form{Op: op, Vars: names[:n%5], Terms: many(n/5%5, of("a")), Args: many(n/25, yes())}
			want := api.OK
			row, ok := table[op]
			for i, many := range []int{len(f.Vars), len(f.Terms), len(f.Args)} {
				if !ok || many < row[i].least || many > row[i].most {
					want = api.ErrArg
				}
			}
			checks(t, f, want)
			checks(t, not(f), want)
			checks(t, and(yes(), f), want)
		}
	}
}

func TestOpsThatAreNone(t *testing.T) {
	for _, op := range []api.FormOp{0, -1, 13, 14, 99, math.MaxInt, math.MinInt, math.MaxInt32 + 1, 1<<32 + 1} {
		for _, f := range each() {
			f.Op = op
			checks(t, f, api.ErrArg)
			checks(t, all("X", and(yes(), f)), api.ErrArg)
		}
	}
	checks(t, api.Form{}, api.ErrArg)
}

// termsIn are all places where a term may stand in a formula of a size that is greater by as much as told.
func termsIn(x api.Expr) []api.Form {
	l := []api.Form{eq(x, of("a")), eq(of("a"), x), atom("p", x), atom("p", of("a"), x), not(eq(x, x)), all("X", and(yes(), eq(v("X"), of("f", x))))}
	if !x.Var {
		l = append(l, api.Form{Op: api.FormAtom, Terms: []api.Expr{x}})
	}
	return l
}

func TestNamesOfTerms(t *testing.T) {
	long := strings.Repeat("a", 39)
	for _, name := range []string{"a", "ab_1", "A", "X", "1", "_", "007", "_a", "true", long + "b", "A" + long, "9" + long} {
		for _, f := range termsIn(of(name)) {
			checks(t, f, api.OK)
		}
		checks(t, eq(of(name, v("X")), v("X")), api.OK)
	}
	for _, name := range []string{"", " ", "a b", "a-b", "$true", "'a'", "a ", "\xc3\xa4", "a\n", long + "bc", strings.Repeat("a", 8001), "(", "a,b"} {
		for _, f := range append(termsIn(of(name)), termsIn(of(name, of("a")))...) {
			checks(t, f, api.ErrArg)
		}
	}
}

func TestNamesOfVariables(t *testing.T) {
	long := strings.Repeat("a", 39)
	for _, name := range []string{"A", "Z", "X", "X0", "Xy_1", "XY", "X_", "X" + long} {
		for _, f := range termsIn(v(name)) {
			checks(t, f, api.OK)
		}
		checks(t, all(name, yes()), api.OK)
		checks(t, some("B "+name, yes()), api.OK)
	}
	for _, name := range []string{"", "a", "x", "_", "_X", "1", "1X", "X ", " X", "X Y", "X,Y", "X-Y", "'X'", "$X", "X%", "X\n", "%\nX", "\xc3\x84", "@", "[", "X" + long + "a", strings.Repeat("X", 8001)} {
		for _, f := range termsIn(v(name)) {
			checks(t, f, api.ErrArg)
		}
		for _, op := range []api.FormOp{api.FormAll, api.FormSome} {
			for _, vars := range [][]string{{name}, {"X", name}, {name, "X"}, {"X", name, "Y"}} {
				checks(t, api.Form{Op: op, Vars: vars, Args: []api.Form{yes()}}, api.ErrArg)
			}
		}
	}
}

// TestEveryByteInAVariable: alone, ahead and behind.
func TestEveryByteInAVariable(t *testing.T) {
	for b := range 256 {
		c := string([]byte{byte(b)})
		great := 'A' <= b && b <= 'Z'
		for name, ok := range map[string]bool{c: great, c + "a": great, "X" + c: token.Name(c), "X" + c + "a": token.Name(c)} {
			want := api.OK
			if !ok {
				want = api.ErrArg
			}
			checks(t, eq(v(name), of("a")), want)
			checks(t, api.Form{Op: api.FormAll, Vars: []string{name}, Args: []api.Form{yes()}}, want)
		}
	}
}

func TestWrongTerms(t *testing.T) {
	x := v("X")
	checks(t, api.Form{Op: api.FormAtom, Terms: []api.Expr{x}}, api.ErrArg)
	for _, args := range [][]api.Expr{{of("a")}, {x}, many(6, x)} {
		bad := api.Expr{Var: true, Name: "X", Args: args}
		for _, f := range append(termsIn(bad), api.Form{Op: api.FormAtom, Terms: []api.Expr{bad}}) {
			checks(t, f, api.ErrArg)
		}
	}
	for _, deep := range []api.Expr{v("x"), of(""), {Var: true, Name: "X", Args: []api.Expr{x}}} {
		for _, f := range termsIn(of("g", of("a"), nest(20, deep))) {
			checks(t, f, api.ErrArg)
		}
	}
	empty := api.Expr{Var: true, Name: "X", Args: []api.Expr{}}
	checks(t, eq(empty, api.Expr{Name: "a", Args: []api.Expr{}}), api.OK)
}

func TestQuantifiersVars(t *testing.T) {
	for _, op := range []api.FormOp{api.FormAll, api.FormSome} {
		for vars, want := range map[string]api.Errno{
			"X": api.OK, "X Y": api.OK, "A B C D E F G H": api.OK, "X X0 X00 XX": api.OK,
			"": api.ErrArg, "X X": api.ErrArg, "X Y X": api.ErrArg, "X Y Y": api.ErrArg, "A B C D E F A": api.ErrArg,
		} {
			checks(t, api.Form{Op: op, Vars: strings.Fields(vars), Args: []api.Form{atom("p", v("X"))}}, want)
		}
	}
}

// TestEmptyIsNil: where nothing may be set, an empty list is as none.
func TestEmptyIsNil(t *testing.T) {
	for _, f := range each() {
		g := f
		if g.Vars == nil {
			g.Vars = []string{}
		}
		if g.Terms == nil {
			g.Terms = []api.Expr{}
		}
		if g.Args == nil {
			g.Args = []api.Form{}
		}
		checks(t, g, api.OK)
		if !formula.Same(f, g) || !formula.Same(g, f) || !formula.Same(not(f), not(g)) {
			t.Error(show(f))
		}
	}
}

func TestTooLarge(t *testing.T) {
	a, p := of("a"), atom("p")
	var names []string
	for i := range 400 {
		names = append(names, "X"+strings.Repeat("a", i%30)+string(rune('A'+i/30)))
	}
	quantified := func(n int, f api.Form) api.Form {
		return api.Form{Op: api.FormSome, Vars: names[:n], Args: []api.Form{f}}
	}
	six := of("f", many(6, a)...)
	for f, size := range map[*api.Form]int{
		ptr(and(many(150, yes())...)): 151, ptr(and(many(299, yes())...)): 300, ptr(and(many(300, no())...)): 301, ptr(or(many(149, p)...)): 299, ptr(or(many(150, p)...)): 301,
		ptr(or(append(many(149, p), yes())...)): 300, ptr(quantified(298, yes())): 300, ptr(quantified(299, yes())): 301, ptr(quantified(297, p)): 300, ptr(quantified(298, p)): 301,
		ptr(quantified(100, and(quantified(97, yes()), quantified(97, yes())))): 300, ptr(quantified(100, and(quantified(98, yes()), quantified(97, yes())))): 301,
		ptr(atom("p", many(6, of("g", many(6, of("f", many(6, a)...))...))...)): 1 + 1 + 6 + 36 + 216, ptr(atom("p", many(6, of("g", many(6, six)...))...)): 260,
		ptr(and(many(33, eq(of("f", v("X"), a), of("g", of("h", of("i", a)))))...)): 265, ptr(and(append(many(37, eq(of("f", v("X"), a), of("g", of("h", of("i", a))))), p, yes())...)): 300,
		ptr(and(append(many(37, eq(of("f", v("X"), a), of("g", of("h", of("i", a))))), p, p)...)): 301,
	} {
		want := api.OK
		if size > 300 {
			want = api.ErrLong
		}
		for _, g := range []api.Form{*f, other(*f)} {
			checks(t, g, want)
			sized(t, g, size)
		}
	}
}

// other is And for Or, All for Some, and so back.
func other(f api.Form) api.Form {
	switch f.Op {
	case api.FormAnd, api.FormAll:
		f.Op++
	case api.FormOr, api.FormSome:
		f.Op--
	}
	return f
}

func ptr[E any](x E) *E { return &x }

func TestTooDeep(t *testing.T) {
	for _, bottom := range []api.Form{yes(), atom("p"), eq(v("X"), of("a"))} {
		checks(t, deny(29, bottom), api.OK)
		checks(t, deny(30, bottom), api.OK)
		checks(t, deny(31, bottom), api.ErrLong)
		checks(t, and(yes(), deny(29, bottom)), api.OK)
		checks(t, and(yes(), deny(30, bottom)), api.ErrLong)
		checks(t, all("X", or(deny(28, bottom), no())), api.OK)
		checks(t, all("X", or(no(), deny(29, bottom))), api.ErrLong)
	}
	for _, bottom := range []api.Expr{v("X"), of("a"), of("X")} {
		for _, f := range []api.Form{eq(nest(30, bottom), bottom), eq(bottom, nest(30, bottom)), atom("p", of("a"), nest(29, bottom)), deny(30, atom("p", nest(29, bottom)))} {
			checks(t, f, api.OK)
		}
		for _, f := range []api.Form{eq(nest(31, bottom), bottom), eq(bottom, nest(31, bottom)), atom("p", of("a"), nest(30, bottom)), deny(30, atom("p", nest(30, bottom)))} {
			checks(t, f, api.ErrLong)
		}
	}
}

func TestTooManyArguments(t *testing.T) {
	for n := range 12 {
		want := api.OK
		if n > 6 {
			want = api.ErrLong
		}
		for _, f := range termsIn(of("f", many(n, v("X"))...)) {
			checks(t, f, want)
		}
		checks(t, atom("p", many(n, of("a"))...), want)
		checks(t, eq(v("X"), nest(25, of("g", of("a"), of("f", many(n, of("a"))...)))), want)
	}
}

// TestLongGoesAhead: what may not be and is too long besides is too long; so in parts that may not stand there.
func TestLongGoesAhead(t *testing.T) {
	wide, deep := of("f", many(7, of("a"))...), nest(31, of("a"))
	bad := []api.Form{
		{}, {Op: 99}, eq(v("x"), of("")), eq(of("a b"), api.Expr{Var: true, Name: "X", Args: []api.Expr{of("a")}}), {Op: api.FormAtom, Terms: []api.Expr{v("X")}},
		all("", yes()), all("X X", yes()), all("x", yes()), implies(yes()), and(yes()), not(api.Form{}), {Op: api.FormTrue, Vars: []string{"X"}},
	}
	for _, f := range bad {
		checks(t, f, api.ErrArg)
		checks(t, and(f, yes()), api.ErrArg)
		for _, long := range []api.Form{eq(wide, of("a")), atom("p", deep), deny(31, yes()), and(many(300, yes())...), all(strings.Repeat("X ", 299), yes())} {
			checks(t, and(f, long), api.ErrLong)
			checks(t, implies(long, f, yes()), api.ErrLong)
			g := f
			g.Args = append(slices.Clone(g.Args), long)
			checks(t, g, api.ErrLong)
			g = f
			g.Terms = append(slices.Clone(g.Terms), wide)
			checks(t, g, api.ErrLong)
			g.Terms[len(g.Terms)-1] = deep
			checks(t, g, api.ErrLong)
			g.Vars = many(300, "")
			g.Terms = nil
			checks(t, g, api.ErrLong)
		}
	}
	for _, x := range []api.Expr{{Var: true, Name: "X", Args: many(7, v("X"))}, {Var: true, Name: "", Args: many(7, of("a"))}, {Name: "", Args: many(7, of("a"))}} {
		for _, f := range append(termsIn(x), api.Form{Op: api.FormTrue, Terms: []api.Expr{x}}, api.Form{Op: api.FormAll, Terms: []api.Expr{of("", x)}}) {
			checks(t, f, api.ErrLong)
		}
	}
	deepVariable := v("X")
	for range 30 {
		deepVariable = api.Expr{Var: true, Name: "X", Args: []api.Expr{deepVariable}}
	}
	checks(t, eq(deepVariable, of("a")), api.ErrLong)
	checks(t, eq(deepVariable.Args[0], of("a")), api.ErrArg)
}

// plainCheck is what the chapter says, step by step.
func plainCheck(f api.Form) api.Errno {
	if plainSize(f) > 300 || plainDepth(f) > 30 || plainLong(f) {
		return api.ErrLong
	}
	if !plainMay(f) {
		return api.ErrArg
	}
	return api.OK
}

func plainSize(f api.Form) int {
	n := 1 + len(f.Vars)
	for _, t := range f.Terms {
		n += plainTermSize(t)
	}
	for _, g := range f.Args {
		n += plainSize(g)
	}
	return n
}

func plainTermSize(t api.Expr) int {
	n := 1
	for _, a := range t.Args {
		n += plainTermSize(a)
	}
	return n
}

func plainDepth(f api.Form) int {
	n := 0
	for _, g := range f.Args {
		n = max(n, plainDepth(g))
	}
	return n + 1
}

func plainTermDepth(t api.Expr) int {
	n := 0
	for _, a := range t.Args {
		n = max(n, plainTermDepth(a))
	}
	return n + 1
}

func plainLong(f api.Form) bool {
	var wide func(t api.Expr) bool
	wide = func(t api.Expr) bool { return len(t.Args) > 6 || slices.ContainsFunc(t.Args, wide) }
	long := func(t api.Expr) bool { return plainTermDepth(t) > 30 || wide(t) }
	return slices.ContainsFunc(f.Terms, long) || slices.ContainsFunc(f.Args, plainLong)
}

func plainMay(f api.Form) bool {
	v, n, a := len(f.Vars), len(f.Terms), len(f.Args)
	ok := false
	switch f.Op {
	case api.FormTrue, api.FormFalse:
		ok = v == 0 && n == 0 && a == 0
	case api.FormAtom:
		ok = v == 0 && n == 1 && a == 0 && !f.Terms[0].Var
	case api.FormEq:
		ok = v == 0 && n == 2 && a == 0
	case api.FormNot:
		ok = v == 0 && n == 0 && a == 1
	case api.FormAnd, api.FormOr:
		ok = v == 0 && n == 0 && a >= 2
	case api.FormImplies, api.FormIff, api.FormXor:
		ok = v == 0 && n == 0 && a == 2
	case api.FormAll, api.FormSome:
		ok = v >= 1 && n == 0 && a == 1
	}
	seen := map[string]int{}
	for _, x := range f.Vars {
		seen[x]++
		ok = ok && seen[x] == 1 && plainUpper(x)
	}
	for _, t := range f.Terms {
		ok = ok && plainTermMay(t)
	}
	for _, g := range f.Args {
		ok = ok && plainMay(g)
	}
	return ok
}

func plainTermMay(t api.Expr) bool {
	if t.Var {
		return plainUpper(t.Name) && len(t.Args) == 0
	}
	return plainName(t.Name) && !slices.ContainsFunc(t.Args, func(a api.Expr) bool { return !plainTermMay(a) })
}

func plainName(s string) bool {
	return 1 <= len(s) && len(s) <= 40 && strings.Trim(s, "abcdefghijklmnopqrstuvwxyzABCDEFGHIJKLMNOPQRSTUVWXYZ0123456789_") == ""
}

func plainUpper(s string) bool {
	return plainName(s) && strings.Contains("ABCDEFGHIJKLMNOPQRSTUVWXYZ", s[:1])
}

// TestCheckAnyhow: formulas at hazard, that may be or not, held against the plain second way.
func TestCheckAnyhow(t *testing.T) {
	r := rand.New(rand.NewSource(131))
	told := map[api.Errno]int{}
	for range 30000 {
		f := strange(r, 1+r.Intn(6), r.Intn(3) == 0)
		want := plainCheck(f)
		told[want]++
		checks(t, f, want)
		if got, want := formula.Size(f), plainSize(f); got != want {
			t.Errorf("%s: %d, not %d", show(f), got, want)
		}
	}
	if told[api.OK] < 3000 || told[api.ErrArg] < 3000 || told[api.ErrLong] < 500 {
		t.Error(told)
	}
}

// strange is a formula at hazard: all such as may be, but for a fault here and there where wrong is true.
func strange(r *rand.Rand, depth int, wrong bool) api.Form {
	f := api.Form{Op: api.FormOp(1 + r.Intn(12))}
	if depth <= 1 {
		f.Op = api.FormOp(1 + r.Intn(4))
	}
	fault := func() bool { return wrong && r.Intn(12) == 0 }
	args := 0
	switch f.Op {
	case api.FormAtom:
		f.Terms = []api.Expr{of([]string{"p", "q", "P"}[r.Intn(3)], strangeTerms(r, r.Intn(4), wrong)...)}
	case api.FormEq:
		f.Terms = strangeTerms(r, 2, wrong)
	case api.FormNot:
		args = 1
	case api.FormAnd, api.FormOr:
		args = 2 + r.Intn(3)
	case api.FormImplies, api.FormIff, api.FormXor:
		args = 2
	case api.FormAll, api.FormSome:
		args = 1
		names := []string{"X", "Y", "Z", "Xa"}
		for _, i := range r.Perm(4)[:1+r.Intn(4)] {
			f.Vars = append(f.Vars, names[i])
		}
	}
	if fault() {
		args += r.Intn(3) - 1
	}
	if fault() {
		f.Op = api.FormOp(r.Intn(15) - 1)
	}
	if fault() {
		f.Vars = append(f.Vars, []string{"X", "x", ""}[r.Intn(3)])
	}
	if fault() {
		f.Terms = strangeTerms(r, r.Intn(3), wrong)
	}
	for range args {
		f.Args = append(f.Args, strange(r, depth-1, wrong))
	}
	return f
}

func strangeTerms(r *rand.Rand, n int, wrong bool) []api.Expr {
	var l []api.Expr
	for range n {
		l = append(l, strangeTerm(r, 1+r.Intn(4), wrong))
	}
	return l
}

func strangeTerm(r *rand.Rand, depth int, wrong bool) api.Expr {
	if wrong && r.Intn(40) == 0 {
		return []api.Expr{v("x"), of(""), nest(31, v("X")), of("f", many(7, of("a"))...), {Var: true, Name: "X", Args: []api.Expr{of("a")}}, of("a b")}[r.Intn(6)]
	}
	if depth <= 1 {
		return []api.Expr{v("X"), v("Y"), v("Z"), v("Xa"), of("a"), of("B"), of("1")}[r.Intn(7)]
	}
	return of([]string{"f", "g", "X"}[r.Intn(3)], []api.Expr{strangeTerm(r, depth-1, wrong), strangeTerm(r, depth-1, wrong), of("a")}[:1+r.Intn(3)]...)
}
