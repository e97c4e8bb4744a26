package cnf_test

import (
	"fmt"
	"slices"
	"strings"
	"testing"

	"syllogism/api"
	"syllogism/cnf"
	"syllogism/formula"
	"syllogism/term"
	"syllogism/tptp"
)

// parsed is the formula of a text without a fault.
func parsed(text string) api.Form {
	f, at, e := formula.Parse(text)
	if e != api.OK {
		panic(fmt.Sprint(text, at, e))
	}
	return f
}

// problem is the entries of a text without a fault.
func problem(text string) []api.Entry {
	l, at, e := tptp.Read(text, nil)
	if e != api.OK {
		panic(fmt.Sprint(text, at, e))
	}
	return l
}

func entry(role string, f api.Form) api.Entry { return api.Entry{Name: "n", Role: role, Form: f} }

func axiom(f api.Form) api.Entry { return entry("axiom", f) }

// clausal is an entry with Cnf.
func clausal(f api.Form) api.Entry { return api.Entry{Cnf: true, Name: "n", Role: "axiom", Form: f} }

func roles() []string {
	return strings.Fields("axiom hypothesis definition assumption lemma theorem corollary plain conjecture negated_conjecture")
}

func v(name string) api.Expr { return api.Expr{Var: true, Name: name} }

func of(name string, args ...api.Expr) api.Expr { return api.Expr{Name: name, Args: args} }

func form(op api.FormOp, args ...api.Form) api.Form { return api.Form{Op: op, Args: args} }

func yes() api.Form { return form(api.FormTrue) }

func no() api.Form { return form(api.FormFalse) }

func atom(name string, args ...api.Expr) api.Form {
	return api.Form{Op: api.FormAtom, Terms: []api.Expr{of(name, args...)}}
}

func eq(l, r api.Expr) api.Form { return api.Form{Op: api.FormEq, Terms: []api.Expr{l, r}} }

func not(f api.Form) api.Form { return form(api.FormNot, f) }

func and(l ...api.Form) api.Form { return form(api.FormAnd, l...) }

func or(l ...api.Form) api.Form { return form(api.FormOr, l...) }

func iff(l ...api.Form) api.Form { return form(api.FormIff, l...) }

// all and some take their variables as one text, with blanks between.
func all(vars string, f api.Form) api.Form {
	return api.Form{Op: api.FormAll, Vars: strings.Fields(vars), Args: []api.Form{f}}
}

func some(vars string, f api.Form) api.Form {
	return api.Form{Op: api.FormSome, Vars: strings.Fields(vars), Args: []api.Form{f}}
}

// many is a list of n times the same.
func many[E any](n int, x E) []E {
	l := make([]E, n)
	for i := range l {
		l[i] = x
	}
	return l
}

// each is a list of what becomes of the numbers below n.
func each[E any](n int, one func(i int) E) []E {
	var l []E
	for i := range n {
		l = append(l, one(i))
	}
	return l
}

// facts are n atoms without arguments.
func facts(name string, n int) []api.Form {
	return each(n, func(i int) api.Form { return atom(fmt.Sprint(name, i)) })
}

// variables are n of them.
func variables(n int) []api.Expr {
	return each(n, func(i int) api.Expr { return v(fmt.Sprint("V", i)) })
}

// deep is a term of that depth.
func deep(depth int, t api.Expr) api.Expr {
	for range depth - 1 {
		t = of("f", t)
	}
	return t
}

// answer is all that Make tells.
type answer struct {
	sig  api.Sig
	c    []api.Clause
	from []api.Origin
	e    api.Errno
}

func made(l []api.Entry) answer {
	sig, c, from, e := cnf.Make(l)
	return answer{sig, c, from, e}
}

// show tells all of an answer, empty and nil alike; so two are the same just if they are shown so.
func (a answer) show() string {
	var b strings.Builder
	fmt.Fprint(&b, a.e, a.sig.Syms[:len(a.sig.Syms):len(a.sig.Syms)], a.from[:len(a.from):len(a.from)])
	for _, c := range a.c {
		b.WriteString("\n")
		for _, l := range c {
			fmt.Fprint(&b, " ", l.Neg, " ", showTerm(l.L), " ", showTerm(l.R))
		}
	}
	return b.String()
}

func showTerm(t api.Term) string {
	s := fmt.Sprint(t.Fun, "(")
	for _, x := range t.Args {
		s += showTerm(x)
	}
	return s + ")"
}

// written tells a literal with its symbols' names; a predicate's top is told from a function's.
func written(sig api.Sig, l api.Lit) string {
	var one func(t api.Term, pred bool) string
	one = func(t api.Term, pred bool) string {
		if t.Fun < 0 {
			return fmt.Sprint("X", -1-t.Fun)
		}
		s := sig.Syms[t.Fun].Name
		if sig.Syms[t.Fun].Pred != pred || sig.Syms[t.Fun].Arity != len(t.Args) {
			s = fmt.Sprint("?", sig.Syms[t.Fun])
		}
		if len(t.Args) == 0 {
			return s
		}
		var args []string
		for _, x := range t.Args {
			args = append(args, one(x, false))
		}
		return s + "(" + strings.Join(args, ",") + ")"
	}
	if l.R.Fun == 0 && len(l.R.Args) == 0 {
		if l.Neg {
			return "~ " + one(l.L, true)
		}
		return one(l.L, true)
	}
	if l.Neg {
		return one(l.L, false) + " != " + one(l.R, false)
	}
	return one(l.L, false) + " = " + one(l.R, false)
}

// texts tells each clause as the chapter's table does.
func (a answer) texts() []string {
	var out []string
	for _, c := range a.c {
		var l []string
		for _, x := range c {
			l = append(l, written(a.sig, x))
		}
		if len(l) == 0 {
			l = []string{"$false"}
		}
		out = append(out, strings.Join(l, " | "))
	}
	return out
}

// names tells the symbols behind $true, functions and predicates alike, with how many arguments they have.
func (a answer) names() string {
	var out []string
	for _, s := range a.sig.Syms {
		name := fmt.Sprint(s.Name, s.Arity)
		if s.Pred {
			name += "p"
		}
		out = append(out, name)
	}
	return strings.TrimPrefix(strings.Join(out, " "), "$true0p")
}

// becomes wants clauses, with "; " between.
func becomes(t *testing.T, want string, l ...api.Entry) answer {
	t.Helper()
	a := made(l)
	if got := strings.Join(a.texts(), "; "); got != want || a.e != api.OK || len(a.from) != len(a.c) {
		t.Errorf("%.400s:\n%.2000s %v\nnot\n%.2000s", showEntries(l), got, a.e, want)
	}
	return a
}

// makes wants the clauses of one formula as an axiom.
func makes(t *testing.T, text, want string) {
	t.Helper()
	becomes(t, want, axiom(parsed(text)))
}

// table wants it of a table of texts.
func table(t *testing.T, lines map[string]string) {
	t.Helper()
	for text, want := range lines {
		makes(t, text, want)
	}
}

// signed wants the signature of a problem.
func signed(t *testing.T, text, want string) {
	t.Helper()
	a := made(problem(text))
	if a.names() != " "+want || a.e != api.OK {
		t.Errorf("%.400s: %s %v, not %s", text, a.names(), a.e, want)
	}
}

// refuses wants an error, and nothing else.
func refuses(t *testing.T, want api.Errno, l ...api.Entry) {
	t.Helper()
	a := made(l)
	if a.e != want || a.sig.Syms != nil || a.c != nil || a.from != nil {
		t.Errorf("%.400s: %d clauses, %v, not %v", showEntries(l), len(a.c), a.e, want)
	}
}

// fits wants so many clauses and no error.
func fits(t *testing.T, clauses int, l ...api.Entry) answer {
	t.Helper()
	a := made(l)
	if a.e != api.OK || len(a.c) != clauses || len(a.from) != clauses {
		t.Errorf("%.400s: %d clauses of %d, %v, not %d", showEntries(l), len(a.c), len(a.from), a.e, clauses)
	}
	return a
}

func showEntries(l []api.Entry) string {
	var b strings.Builder
	for _, x := range l {
		fmt.Fprint(&b, x.Cnf, " ", x.Name, " ", x.Role, " ", showForm(x.Form), "\n")
	}
	return b.String()
}

func showForm(f api.Form) string {
	if text, e := formula.Text(f); e == api.OK {
		return text
	}
	s := fmt.Sprintf("%d%q<", f.Op, f.Vars)
	for _, t := range f.Terms {
		s += showExpr(t)
	}
	for _, g := range f.Args {
		s += showForm(g)
	}
	return s + ">"
}

func showExpr(x api.Expr) string {
	s := fmt.Sprintf("%v%q(", x.Var, x.Name)
	for _, a := range x.Args {
		s += showExpr(a)
	}
	return s + ")"
}

// signature is $true and those told by texts as names tells them.
func signature(text string) api.Sig {
	l := []api.Sym{{Name: "$true", Pred: true}}
	for _, s := range strings.Fields(text) {
		pred := strings.HasSuffix(s, "p") && len(s) > 2
		s = strings.TrimSuffix(s, "p")
		l = append(l, api.Sym{Name: s[:len(s)-1], Arity: int(s[len(s)-1] - '0'), Pred: pred})
	}
	return api.Sig{Syms: l}
}

// finds wants Term to tell a term, by its text over the signature.
func finds(t *testing.T, sig api.Sig, x api.Expr, vars []string, pred bool, want string) {
	t.Helper()
	got, e := cnf.Term(sig, x, vars, pred)
	text, _ := term.Text(sig, got)
	if e != api.OK || text != want {
		t.Errorf("%.300s of %q: %.300s %v, not %.300s", showExpr(x), vars, text, e, want)
	}
}

// lacks wants Term to tell an error, and nothing else.
func lacks(t *testing.T, sig api.Sig, x api.Expr, vars []string, pred bool, want api.Errno) {
	t.Helper()
	got, e := cnf.Term(sig, x, vars, pred)
	if e != want || got.Fun != 0 || got.Args != nil {
		t.Errorf("%.300s of %.300q: %.300s %v, not %v", showExpr(x), vars, showTerm(got), e, want)
	}
}

func sorted(l []string) []string {
	l = slices.Clone(l)
	slices.Sort(l)
	return l
}
