package nnf_test

import (
	"math"
	"math/rand"
	"slices"
	"strings"
	"testing"

	"syllogism/api"
	"syllogism/formula"
)

// here wants all calls to take a formula, or all to refuse it.
func here(t *testing.T, f api.Form, ok bool) {
	t.Helper()
	for _, c := range calls() {
		if !ok {
			refuses(t, c, f, api.ErrArg)
			continue
		}
		g, e := c.do(f)
		if c.name == "Inside" && e == api.ErrLong && zero(g) && outside(f) > api.MaxNodes {
			continue
		}
		if e != api.OK || zero(g) {
			t.Errorf("%s(%.400s): %.400s %v", c.name, show(f), show(g), e)
		}
	}
}

// each is a formula of each Op that may be, with as little as the table lets, and then with more.
func each() []api.Form {
	p, x := atom("p"), v("X")
	return []api.Form{
		yes(), no(), p, eq(x, of("a")), not(p), and(p, p), or(p, p), implies(p, p), iff(p, p), xor(p, p), all("X", p), some("X", p),
		atom("p", x), atom("X"), atom("q", x, of("f", x, of("a"))), eq(x, x), eq(of("f", x), v("Y")), not(not(p)),
		and(p, yes(), no()), or(many(20, p)...), all("X Y Z", p), some("Y X", atom("p", x)), all("X", all("X", atom("p", x))),
	}
}

// around are formulas with another one in them, at their first, second, last place, and deep.
func around(f api.Form) []api.Form {
	deep := f
	for i := range 20 {
		deep = []api.Form{not(deep), and(yes(), deep), all("X", deep), implies(deep, no()), or(no(), yes(), no(), deep, yes())}[i%5]
	}
	return []api.Form{f, not(f), and(f, yes()), or(yes(), f), and(append(many(50, yes()), f)...), some("X Y", f), iff(yes(), f), xor(f, no()), deep}
}

func TestEachOp(t *testing.T) {
	for _, f := range each() {
		for _, g := range around(f) {
			here(t, g, true)
		}
	}
}

// TestByTheTable: of each Op, all small numbers of Vars, Terms and Args.
func TestByTheTable(t *testing.T) {
	type amount struct{ least, most int }
	none, one, two := amount{0, 0}, amount{1, 1}, amount{2, 2}
	table := map[api.FormOp][3]amount{
		api.FormTrue: {none, none, none}, api.FormFalse: {none, none, none},
		api.FormAtom: {none, one, none}, api.FormEq: {none, two, none}, api.FormNot: {none, none, one},
		api.FormAnd: {none, none, {2, 99}}, api.FormOr: {none, none, {2, 99}},
		api.FormImplies: {none, none, two}, api.FormIff: {none, none, two}, api.FormXor: {none, none, two},
		api.FormAll: {{1, 99}, none, one}, api.FormSome: {{1, 99}, none, one},
	}
	names := []string{"A", "B", "C", "D", "E"}
	for op := api.FormOp(-3); op < 20; op++ {
		for n := range 5 * 6 * 6 {
			f := api.Form{Op: op, Vars: names[:n%5], Terms: many(n/5%6, of("a")), Args: many(n/30, yes())}
			row, ok := table[op]
			for i, many := range []int{len(f.Vars), len(f.Terms), len(f.Args)} {
				ok = ok && many >= row[i].least && many <= row[i].most
			}
			here(t, f, ok)
			here(t, not(f), ok)
			here(t, and(yes(), yes(), yes(), f), ok)
		}
	}
}

func TestOpsThatAreNone(t *testing.T) {
	for _, op := range []api.FormOp{0, -1, 13, 14, 99, math.MaxInt, math.MinInt, math.MaxInt32 + 1, 1<<32 + 1} {
		for _, f := range each() {
			f.Op = op
			for _, g := range around(f) {
				here(t, g, false)
			}
		}
	}
	here(t, api.Form{}, false)
}

// termsIn are all places where a term may stand.
func termsIn(x api.Expr) []api.Form {
	l := []api.Form{eq(x, of("a")), eq(of("a"), x), atom("p", x), atom("p", of("a"), x), not(eq(x, x)), all("X", and(yes(), eq(v("X"), of("f", x))))}
	for n := range 6 {
		l = append(l, atom("p", append(many(n, of("a")), of("g", x))...))
	}
	if !x.Var {
		l = append(l, api.Form{Op: api.FormAtom, Terms: []api.Expr{x}})
	}
	return l
}

func TestNames(t *testing.T) {
	long := strings.Repeat("a", 39)
	for _, name := range []string{"a", "ab_1", "A", "X", "1", "_", "007", "_a", "true", long + "b", "A" + long, "9" + long} {
		for _, f := range append(termsIn(of(name)), eq(of(name, v("X")), v("X"))) {
			here(t, f, true)
		}
	}
	for _, name := range []string{"", " ", "a b", "a-b", "$true", "'a'", "a ", "\xc3\xa4", "a\n", long + "bc", strings.Repeat("a", 8001), "(", "a,b"} {
		for _, f := range append(termsIn(of(name)), termsIn(of(name, of("a")))...) {
			here(t, f, false)
		}
	}
	for _, name := range []string{"A", "Z", "X", "X0", "Xy_1", "XY", "X_", "X" + long} {
		for _, f := range append(termsIn(v(name)), all(name, yes()), some("B "+name, yes())) {
			here(t, f, true)
		}
	}
	for _, name := range []string{"", "a", "x", "_", "_X", "1", "1X", "X ", " X", "X Y", "X,Y", "X-Y", "'X'", "$X", "X%", "X\n", "%\nX", "\xc3\x84", "@", "[", "X" + long + "a", strings.Repeat("X", 8001)} {
		for _, f := range termsIn(v(name)) {
			here(t, f, false)
		}
		for _, vars := range [][]string{{name}, {"X", name}, {name, "X"}, {"X", name, "Y"}, {"A", "B", "C", "D", name}} {
			here(t, api.Form{Op: api.FormAll, Vars: vars, Args: []api.Form{yes()}}, false)
			here(t, api.Form{Op: api.FormSome, Vars: vars, Args: []api.Form{atom("p", v("X"))}}, false)
		}
	}
}

func TestWrongTerms(t *testing.T) {
	x := v("X")
	here(t, api.Form{Op: api.FormAtom, Terms: []api.Expr{x}}, false)
	for _, args := range [][]api.Expr{{of("a")}, {x}, many(6, x), many(7, x)} {
		bad := api.Expr{Var: true, Name: "X", Args: args}
		for _, f := range append(termsIn(bad), api.Form{Op: api.FormAtom, Terms: []api.Expr{bad}}) {
			here(t, f, false)
		}
	}
	for _, deep := range []api.Expr{v("x"), of(""), {Var: true, Name: "X", Args: []api.Expr{x}}, of("f", many(7, x)...), {}, {Var: true}} {
		for _, f := range termsIn(of("g", of("a"), nest(20, deep))) {
			here(t, f, false)
		}
	}
	for n := range 12 {
		for _, f := range append(termsIn(of("f", many(n, x)...)), atom("p", many(n, of("a"))...)) {
			here(t, f, n <= 6)
		}
	}
	here(t, eq(of("f", many(100000, x)...), x), false)
}

func TestVarsOfAllAndSome(t *testing.T) {
	for _, op := range []api.FormOp{api.FormAll, api.FormSome} {
		for vars, ok := range map[string]bool{
			"X": true, "X Y": true, "A B C D E F G H": true, "X X0 X00 XX": true,
			"": false, "X X": false, "X Y X": false, "X Y Y": false, "A B C D E F A": false, "A B C D E E F": false,
		} {
			f := api.Form{Op: op, Vars: strings.Fields(vars), Args: []api.Form{atom("p", v("X"))}}
			for _, g := range around(f) {
				here(t, g, ok)
			}
		}
		f := api.Form{Op: op, Vars: variables(900), Args: []api.Form{atom("p", v("X"))}}
		here(t, f, true)
		for _, i := range []int{0, 1, 450, 898} {
			f.Vars[899] = f.Vars[i]
			here(t, f, false)
		}
	}
}

// variables are so many names, no two the same.
func variables(n int) []string {
	var l []string
	for i := range n {
		l = append(l, string(rune('A'+i%26))+strings.Repeat("a", i/26%30)+strings.Repeat("b", i/780))
	}
	return l
}

// TestEmptyIsNil: where nothing may be set, an empty list is as none.
func TestEmptyIsNil(t *testing.T) {
	for _, f := range each() {
		g := f
		if g.Vars == nil {
			g.Vars = []string{}
		}
		if g.Terms == nil {
			g.Terms = []api.Expr{}
		}
		if g.Args == nil {
			g.Args = []api.Form{}
		}
		for _, c := range calls() {
			becomes(t, c, g, made(t, c, f))
			becomes(t, c, not(g), made(t, c, not(f)))
		}
	}
	a := api.Expr{Name: "a", Args: []api.Expr{}}
	here(t, eq(a, api.Expr{Var: true, Name: "X", Args: []api.Expr{}}), true)
	here(t, atom("p", nest(29, a)), true)
}

// TestTooLarge: a formula of MaxNodes, and one node more, by each thing that counts.
func TestTooLarge(t *testing.T) {
	a, x, p := of("a"), v("X"), atom("p")
	six := of("f", many(6, a)...)                         // 7
	wide := of("g", many(6, of("g", many(6, six)...))...) // 259
	wider := of("h", many(6, wide)...)                    // 1555
	quantified := func(n int, f api.Form) api.Form {
		return api.Form{Op: api.FormSome, Vars: variables(n), Args: []api.Form{f}}
	}
	for f, size := range map[*api.Form]int{
		ptr(and(many(1999, yes())...)): 2000, ptr(and(many(2000, yes())...)): 2001, ptr(or(many(1999, no())...)): 2000, ptr(or(many(2000, no())...)): 2001,
		ptr(or(many(999, p)...)): 1999, ptr(or(append(many(999, p), yes())...)): 2000, ptr(or(many(1000, p)...)): 2001, ptr(not(or(many(999, p)...))): 2000,
		ptr(not(not(or(many(999, p)...)))): 2001, ptr(quantified(1998, yes())): 2000, ptr(quantified(1999, yes())): 2001, ptr(quantified(1997, p)): 2000, ptr(quantified(1998, p)): 2001,
		ptr(quantified(1000, and(quantified(600, yes()), quantified(394, yes())))): 2000, ptr(quantified(1000, and(quantified(600, yes()), quantified(395, yes())))): 2001,
		ptr(eq(wider, of("f", wide, of("h", many(6, of("h", many(6, x)...))...), x))):                                                                                                          1 + 1555 + 1 + 259 + 43 + 1,
		ptr(and(eq(wider, of("f", wide, x)), eq(of("h", many(6, six)...), of("h", many(6, six)...)), eq(six, six), atom("p", x, six), yes())):                                                  1 + 1817 + 87 + 15 + 10 + 1,
		ptr(and(eq(wider, of("f", wide, x)), eq(of("h", many(6, six)...), of("h", many(6, six)...)), eq(six, six), eq(six, six), atom("p", many(6, six)...), eq(six, of("f", many(5, x)...)))): 1 + 1817 + 87 + 15 + 15 + 44 + 14,
		ptr(and(append(many(666, eq(x, a)), yes())...)): 2000, ptr(and(append(many(666, eq(x, a)), yes(), no())...)): 2001, ptr(and(append(many(665, eq(x, a)), eq(x, of("f", a)))...)): 2000, ptr(and(append(many(665, eq(x, a)), eq(of("f", x), of("f", a)))...)): 2001,
		ptr(implies(and(many(1498, yes())...), or(many(499, no())...))): 2000, ptr(implies(and(many(1498, yes())...), or(many(500, no())...))): 2001,
	} {
		if got := formula.Size(*f); got != size {
			t.Errorf("%.200s: %d, not %d", show(*f), got, size)
		}
		here(t, *f, size <= api.MaxNodes)
	}
}

func ptr[E any](x E) *E { return &x }

// TestTooDeep: of the formula, and of its terms.
func TestTooDeep(t *testing.T) {
	for _, bottom := range []api.Form{yes(), atom("p"), eq(v("X"), of("a"))} {
		for depth := 195; depth < 206; depth++ {
			here(t, deny(depth, bottom), depth <= 200)
			here(t, and(yes(), no(), yes(), deny(depth-1, bottom)), depth <= 200)
			here(t, implies(deny(depth-1, bottom), no()), depth <= 200)
			here(t, all("X", or(deny(depth-2, bottom), no())), depth <= 200)
		}
	}
	for _, bottom := range []api.Expr{v("X"), of("a"), of("X")} {
		for depth := 27; depth < 34; depth++ {
			for _, f := range []api.Form{eq(nest(depth, bottom), bottom), eq(bottom, nest(depth, bottom)), atom("p", of("a"), nest(depth-1, bottom)), deny(200, atom("p", nest(depth-1, bottom)))} {
				here(t, f, depth <= 30)
			}
		}
	}
}

// plainHere is what the chapter says, step by step.
func plainHere(f api.Form) bool {
	return formula.Size(f) <= 2000 && depth(f) <= 200 && plainMay(f)
}

func depth(f api.Form) int {
	n := 0
	for _, g := range f.Args {
		n = max(n, depth(g))
	}
	return n + 1
}

func termDepth(x api.Expr) int {
	n := 0
	for _, a := range x.Args {
		n = max(n, termDepth(a))
	}
	return n + 1
}

func plainMay(f api.Form) bool {
	vars, n, args := len(f.Vars), len(f.Terms), len(f.Args)
	ok := false
	switch f.Op {
	case api.FormTrue, api.FormFalse:
		ok = vars == 0 && n == 0 && args == 0
	case api.FormAtom:
		ok = vars == 0 && n == 1 && args == 0 && !f.Terms[0].Var
	case api.FormEq:
		ok = vars == 0 && n == 2 && args == 0
	case api.FormNot:
		ok = vars == 0 && n == 0 && args == 1
	case api.FormAnd, api.FormOr:
		ok = vars == 0 && n == 0 && args >= 2
	case api.FormImplies, api.FormIff, api.FormXor:
		ok = vars == 0 && n == 0 && args == 2
	case api.FormAll, api.FormSome:
		ok = vars >= 1 && n == 0 && args == 1
	}
	seen := map[string]int{}
	for _, x := range f.Vars {
		seen[x]++
		ok = ok && seen[x] == 1 && plainUpper(x)
	}
	for _, x := range f.Terms {
		ok = ok && termDepth(x) <= 30 && plainTermMay(x)
	}
	for _, g := range f.Args {
		ok = ok && plainMay(g)
	}
	return ok
}

func plainTermMay(x api.Expr) bool {
	if x.Var {
		return plainUpper(x.Name) && len(x.Args) == 0
	}
	return plainName(x.Name) && len(x.Args) <= 6 && !slices.ContainsFunc(x.Args, func(a api.Expr) bool { return !plainTermMay(a) })
}

func plainName(s string) bool {
	return 1 <= len(s) && len(s) <= 40 && strings.Trim(s, "abcdefghijklmnopqrstuvwxyzABCDEFGHIJKLMNOPQRSTUVWXYZ0123456789_") == ""
}

func plainUpper(s string) bool {
	return plainName(s) && strings.Contains("ABCDEFGHIJKLMNOPQRSTUVWXYZ", s[:1])
}

// spoilt is a formula with something else at hazard in it.
func spoilt(r *rand.Rand, f api.Form) api.Form {
	f.Vars, f.Terms, f.Args = slices.Clone(f.Vars), slices.Clone(f.Terms), slices.Clone(f.Args)
	bad := []api.Expr{v("x"), of(""), nest(31, v("X")), of("f", many(7, of("a"))...), {Var: true, Name: "X", Args: []api.Expr{of("a")}}, of("a b"), v("X"), of("a")}[r.Intn(8)]
	if n := r.Intn(len(f.Args) + 2); n < len(f.Args) {
		f.Args[n] = spoilt(r, f.Args[n])
		return f
	}
	if n := r.Intn(len(f.Terms) + 1); n < len(f.Terms) {
		f.Terms[n] = spoiltTerm(r, f.Terms[n], bad)
		return f
	}
	switch r.Intn(7) {
	case 0:
		f.Op = api.FormOp(r.Intn(15) - 1)
	case 1:
		f.Vars = append(f.Vars, []string{"X", "x", "", "Z"}[r.Intn(4)])
	case 2:
		f.Terms = append(f.Terms, bad)
	case 3:
		f.Args = append(f.Args, yes())
	case 4:
		f.Args = f.Args[:max(0, len(f.Args)-1)]
	case 5:
		f.Vars = f.Vars[:max(0, len(f.Vars)-1)]
	case 6:
		f.Terms = f.Terms[:max(0, len(f.Terms)-1)]
	}
	return f
}

func spoiltTerm(r *rand.Rand, x, bad api.Expr) api.Expr {
	if n := r.Intn(len(x.Args) + 1); n < len(x.Args) {
		x.Args = slices.Clone(x.Args)
		x.Args[n] = spoiltTerm(r, x.Args[n], bad)
		return x
	}
	return bad
}

// TestHereAnyhow: formulas at hazard, most of which may not be, held against the plain second way.
func TestHereAnyhow(t *testing.T) {
	r := rand.New(rand.NewSource(152))
	told := map[bool]int{}
	for range 12000 {
		f := spoilt(r, strange(r, 1+r.Intn(5), r.Intn(10)))
		ok := plainHere(f)
		told[ok]++
		here(t, f, ok)
	}
	if told[true] < 1000 || told[false] < 5000 {
		t.Error(told)
	}
}
