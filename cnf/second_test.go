package cnf_test

import (
	"fmt"
	"math/big"
	"math/rand"
	"slices"
	"strings"
	"testing"

	"syllogism/api"
	"syllogism/formula"
	"syllogism/nnf"
	"syllogism/tptp"
)

// plain is Make by the chapter's words, one step at one place at a time; a fault is a panic with its number.
type plain struct {
	syms []api.Sym
	answer
}

func plainMake(l []api.Entry) (a answer) {
	defer func() {
		if e, ok := recover().(api.Errno); ok {
			a = answer{e: e}
		}
	}()
	p := &plain{syms: []api.Sym{{Name: "$true", Pred: true}}}
	must(len(l) <= 200, api.ErrLong)
	conjectures := 0
	for _, x := range l {
		if e := tptp.Check(x); e != api.OK {
			panic(e)
		}
		if x.Role == "conjecture" {
			conjectures++
		}
	}
	must(conjectures < 2, api.ErrMany)
	for _, x := range l {
		for _, s := range formula.Symbols(x.Form) {
			if !slices.Contains(p.syms, s) {
				p.syms = append(p.syms, s)
			}
		}
	}
	must(len(p.syms) <= 96, api.ErrLong)
	for i, x := range l {
		p.entry(i, x)
	}
	p.sig.Syms = p.syms
	return p.answer
}

func must(so bool, e api.Errno) {
	if !so {
		panic(e)
	}
}

func (p *plain) entry(i int, x api.Entry) {
	f := x.Form
	if free := formula.Free(f); x.Cnf && len(free) > 0 {
		f = api.Form{Op: api.FormAll, Vars: free, Args: []api.Form{f}}
	}
	if x.Role == "conjecture" {
		f = not(f)
	}
	for _, do := range []func(api.Form) (api.Form, api.Errno){nnf.Simple, nnf.Inside, nnf.Simple, nnf.Apart} {
		g, e := do(f)
		must(e == api.OK, e)
		f = g
	}
	for {
		at, ok := firstPlace(f, func(g api.Form) bool { return g.Op == api.FormSome })
		if !ok {
			break
		}
		f = p.withoutSome(f, at)
	}
	for {
		at, ok := firstPlace(f, func(g api.Form) bool { return g.Op == api.FormAll })
		if !ok {
			break
		}
		f = putAt(f, at, getAt(f, at).Args[0])
	}
	// each of the waiting is a formula, with Nots of atoms ahead as they are told
	waiting, ahead := []api.Form{f}, []string{""}
	atoms := map[string]api.Form{"": {}}
	for k := 0; k < len(waiting); k++ {
		for {
			at, ok := firstPlace(waiting[k], func(g api.Form) bool { return g.Op == api.FormOr && countOf(g).Cmp(big.NewInt(8)) > 0 })
			if !ok {
				break
			}
			for j, g := range getAt(waiting[k], at).Args {
				if countOf(g).Cmp(big.NewInt(1)) <= 0 {
					continue
				}
				a := atom(p.fresh("def", len(formula.Free(g)), true), variablesNamed(formula.Free(g))...)
				waiting[k] = putAt(waiting[k], append(slices.Clone(at), j), a)
				waiting, ahead = append(waiting, g), append(ahead, showForm(a))
				atoms[showForm(a)] = not(a)
			}
		}
	}
	for k, f := range waiting {
		for _, l := range listsOf(f) {
			if k > 0 {
				l = append([]api.Form{atoms[ahead[k]]}, l...)
			}
			p.clause(l)
			p.from = append(p.from, api.Origin{Entry: i, Goal: strings.HasSuffix(x.Role, "conjecture")})
		}
	}
}

func variablesNamed(l []string) []api.Expr {
	return each(len(l), func(i int) api.Expr { return v(l[i]) })
}

// fresh is the first name with a number that nothing has.
func (p *plain) fresh(name string, arity int, pred bool) string {
	must(arity <= 6 && len(p.syms) < 96, api.ErrLong)
	for n := 1; ; n++ {
		full := fmt.Sprint(name, n)
		if !slices.ContainsFunc(p.syms, func(s api.Sym) bool { return s.Name == full }) {
			p.syms = append(p.syms, api.Sym{Name: full, Arity: arity, Pred: pred})
			return full
		}
	}
}

// withoutSome takes the first Var from the Some at a place.
func (p *plain) withoutSome(f api.Form, at []int) api.Form {
	var scope []string
	for i := range at {
		if g := getAt(f, at[:i]); g.Op == api.FormAll {
			scope = append(scope, g.Vars...)
		}
	}
	g := getAt(f, at)
	var over []string
	for _, x := range scope {
		if slices.Contains(formula.Free(g), x) {
			over = append(over, x)
		}
	}
	t := of(p.fresh("sk", len(over), false), variablesNamed(over)...)
	h := putIn(g.Args[0], g.Vars[0], t)
	if len(g.Vars) > 1 {
		h = api.Form{Op: g.Op, Vars: g.Vars[1:], Args: []api.Form{h}}
	}
	return putAt(f, at, h)
}

// putIn puts a term in for a variable that is bound nowhere within.
func putIn(f api.Form, x string, t api.Expr) api.Form {
	var one func(y api.Expr) api.Expr
	one = func(y api.Expr) api.Expr {
		if y.Var && y.Name == x {
			return t
		}
		y.Args = each(len(y.Args), func(i int) api.Expr { return one(y.Args[i]) })
		return y
	}
	f.Terms = each(len(f.Terms), func(i int) api.Expr { return one(f.Terms[i]) })
	f.Args = each(len(f.Args), func(i int) api.Form { return putIn(f.Args[i], x, t) })
	return f
}

// firstPlace is that of the first part that is such a one, as the formula is read.
func firstPlace(f api.Form, is func(api.Form) bool) ([]int, bool) {
	if is(f) {
		return nil, true
	}
	for i, g := range f.Args {
		if at, ok := firstPlace(g, is); ok {
			return append([]int{i}, at...), true
		}
	}
	return nil, false
}

func getAt(f api.Form, at []int) api.Form {
	for _, i := range at {
		f = f.Args[i]
	}
	return f
}

func putAt(f api.Form, at []int, g api.Form) api.Form {
	if len(at) == 0 {
		return g
	}
	f.Args = slices.Clone(f.Args)
	f.Args[at[0]] = putAt(f.Args[at[0]], at[1:], g)
	return f
}

// countOf is a count without a bound.
func countOf(f api.Form) *big.Int {
	n := big.NewInt(1)
	switch f.Op {
	case api.FormTrue:
		return big.NewInt(0)
	case api.FormAnd:
		n.SetInt64(0)
		for _, g := range f.Args {
			n.Add(n, countOf(g))
		}
	case api.FormOr:
		for _, g := range f.Args {
			n.Mul(n, countOf(g))
		}
	}
	return n
}

// listsOf are the lists of literals of a formula: of an Or by numbers whose figures say which of each Arg's lists.
func listsOf(f api.Form) [][]api.Form {
	var out [][]api.Form
	switch f.Op {
	case api.FormTrue:
		return nil
	case api.FormFalse:
		return [][]api.Form{nil}
	case api.FormAnd:
		for _, g := range f.Args {
			out = append(out, listsOf(g)...)
		}
	case api.FormOr:
		of := each(len(f.Args), func(i int) [][]api.Form { return listsOf(f.Args[i]) })
		rows := 1
		for _, l := range of {
			rows *= len(l)
		}
		for row := range rows {
			var whole []api.Form
			for i := len(of) - 1; i >= 0; i-- {
				whole = append(slices.Clone(of[i][row%len(of[i])]), whole...)
				row /= len(of[i])
			}
			out = append(out, whole)
		}
	default:
		return [][]api.Form{{f}}
	}
	return out
}

// clause makes one, its variables numbered as they come.
func (p *plain) clause(l []api.Form) {
	var c api.Clause
	var shown []string
	var vars []string
	var one func(x api.Expr, pred bool) (t api.Term, size, depth int)
	one = func(x api.Expr, pred bool) (t api.Term, size, depth int) {
		if x.Var {
			if !slices.Contains(vars, x.Name) {
				vars = append(vars, x.Name)
			}
			return api.Term{Fun: -1 - slices.Index(vars, x.Name)}, 1, 1
		}
		t.Fun = slices.Index(p.syms, api.Sym{Name: x.Name, Arity: len(x.Args), Pred: pred})
		for _, y := range x.Args {
			u, s, d := one(y, false)
			t.Args, size, depth = append(t.Args, u), size+s, max(depth, d)
		}
		return t, size + 1, depth + 1
	}
	for _, f := range l {
		if slices.Contains(shown, showAll(f)) {
			continue
		}
		shown = append(shown, showAll(f))
		x := api.Lit{Neg: f.Op == api.FormNot}
		if x.Neg {
			f = f.Args[0]
		}
		sides := []*api.Term{&x.L, &x.R}
		for i, y := range f.Terms {
			t, size, depth := one(y, f.Op == api.FormAtom)
			must(size <= 300 && depth <= 30, api.ErrLong)
			*sides[i] = t
		}
		c = append(c, x)
	}
	must(len(c) <= 16 && len(vars) <= 48 && len(p.c) < 400, api.ErrLong)
	p.c = append(p.c, c)
}

// showAll tells all of a literal, as formula.Text does of such as are not too large.
func showAll(f api.Form) string {
	s := fmt.Sprint(f.Op)
	for _, t := range f.Terms {
		s += showExpr(t)
	}
	for _, g := range f.Args {
		s += showAll(g)
	}
	return s
}

// held holds Make against its plain second way.
func held(t *testing.T, l []api.Entry) answer {
	t.Helper()
	a, b := made(l), plainMake(l)
	if a.show() != b.show() {
		t.Errorf("%.600s:\n%.3000s\nnot\n%.3000s", showEntries(l), a.show(), b.show())
	}
	return a
}

// small are all formulas of a size without free variables but the told ones, with few names; of each kind one or two.
type small map[string][]api.Form

func (s small) of(size int, scope string) []api.Form {
	key := fmt.Sprint(size, scope)
	if l, ok := s[key]; ok || size < 1 {
		return l
	}
	var l []api.Form
	vars := strings.Fields(scope)
	switch size {
	case 2:
		l = []api.Form{atom("b")}
	case 3:
		for _, x := range vars {
			l = append(l, atom("p", v(x)))
		}
	case 4:
		if len(vars) > 1 {
			l = append(l, atom("q", v(vars[0]), v(vars[len(vars)-1])))
		}
	}
	for _, f := range s.of(size-1, scope) {
		if f.Op != api.FormNot {
			l = append(l, not(f))
		}
	}
	next := string(rune('A' + len(vars)))
	for _, f := range s.of(size-2, scope+" "+next) {
		if slices.Contains(formula.Free(f), next) {
			l = append(l, all(next, f), some(next, f))
		}
	}
	for n := 1; n < size-1; n++ {
		for _, f := range s.of(n, scope) {
			for _, g := range s.of(size-1-n, scope) {
				l = append(l, and(f, g), or(f, g))
				if (len(l)+n)%4 == 0 {
					l = append(l, iff(f, g))
				}
			}
		}
	}
	s[key] = l
	return l
}

// TestSmallFormulas: all of them, as axioms and as conjectures.
func TestSmallFormulas(t *testing.T) {
	n, functions := 0, 0
	s := small{}
	for size := 1; size <= 13; size++ {
		for i, f := range s.of(size, "") {
			a := held(t, []api.Entry{entry([]string{"axiom", "conjecture"}[i%2], f)})
			n++
			if strings.Contains(a.names(), "sk2") {
				functions++
			}
		}
	}
	if n < 7000 || functions < 300 {
		t.Error(n, functions)
	}
}

// thrower throws formulas together.
type thrower struct {
	*rand.Rand
	consts, equal int // how often of ten times
	flat          bool
}

func (r thrower) form(depth int, scope []string) api.Form {
	if depth <= 1 || r.Intn(12) == 0 {
		return r.literal(scope)
	}
	f := api.Form{Op: api.FormNot + api.FormOp(r.Intn(8))}
	if r.flat && (f.Op == api.FormIff || f.Op == api.FormXor || f.Op == api.FormImplies) {
		f.Op = api.FormAnd + api.FormOp(r.Intn(2))
	}
	args := 2
	switch f.Op {
	case api.FormNot:
		args = 1
	case api.FormAnd, api.FormOr:
		args = 2 + r.Intn(3)
	case api.FormAll, api.FormSome:
		args = 1
		names := strings.Fields("X Y Z X0 X1 U")
		for _, i := range r.Perm(len(names))[:1+r.Intn(3)] {
			f.Vars = append(f.Vars, names[i])
		}
		scope = slices.Concat(scope, f.Vars, f.Vars)
	}
	for range args {
		f.Args = append(f.Args, r.form(depth-1, scope))
	}
	return f
}

func (r thrower) literal(scope []string) api.Form {
	switch n := r.Intn(10); {
	case n < r.consts:
		return form(api.FormTrue + api.FormOp(r.Intn(2)))
	case n < r.consts+r.equal:
		return eq(r.term(1+r.Intn(3), scope), r.term(1+r.Intn(3), scope))
	}
	names := strings.Fields("p q r f def1 sk2")
	return atom(names[r.Intn(len(names))], each(r.Intn(3), func(int) api.Expr { return r.term(1+r.Intn(2), scope) })...)
}

func (r thrower) term(depth int, scope []string) api.Expr {
	if depth <= 1 {
		if len(scope) > 0 && r.Intn(5) > 0 {
			return v(scope[r.Intn(len(scope))])
		}
		return of([]string{"a", "X0", "sk1"}[r.Intn(3)])
	}
	return of([]string{"f", "g"}[r.Intn(2)], each(1+r.Intn(2), func(int) api.Expr { return r.term(depth-1, scope) })...)
}

// entries are 1 to 4 that may be, of the size that they happen to have.
func (r thrower) entries(most int) []api.Entry {
	var l []api.Entry
	asked := false
	for len(l) == 0 || r.Intn(3) > 0 && len(l) < most {
		x := entry(roles()[r.Intn(10)], r.form(2+r.Intn(5), nil))
		if r.Intn(4) == 0 {
			x.Cnf = true
			x.Form = or(each(2+r.Intn(5), func(int) api.Form {
				if f := r.literal([]string{"X", "Y", "Z", "X1", "X0"}); r.Intn(2) == 0 {
					return not(f)
				} else {
					return f
				}
			})...)
		}
		if tptp.Check(x) != api.OK || asked && x.Role == "conjecture" {
			continue
		}
		asked = asked || x.Role == "conjecture"
		l = append(l, x)
	}
	return l
}

func TestThrownEntries(t *testing.T) {
	r := thrower{Rand: rand.New(rand.NewSource(161))}
	long, parts, functions, goals, clauses, none := 0, 0, 0, 0, 0, 0
	for range 1500 {
		r.consts, r.equal, r.flat = r.Intn(3), r.Intn(6), r.Intn(2) == 0
		a := held(t, r.entries(4))
		if a.e != api.OK {
			long++
		}
		if strings.Contains(a.names(), " def3") {
			parts++
		}
		if strings.Contains(a.names(), " sk4") {
			functions++
		}
		for _, x := range a.from {
			if x.Goal {
				goals++
			}
		}
		clauses += len(a.c)
		if a.e == api.OK && (len(a.c) == 0 || len(a.c[0]) == 0) {
			none++
		}
	}
	if long < 15 || parts < 250 || functions < 350 || goals < 2500 || clauses < 12000 || none < 60 {
		t.Error(long, parts, functions, goals, clauses, none)
	}
}
