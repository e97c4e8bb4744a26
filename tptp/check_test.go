package tptp_test

import (
	"fmt"
	"strings"
	"testing"

	"syllogism/api"
	"syllogism/formula"
	"syllogism/tptp"
)

func TestCheckNames(t *testing.T) {
	p := parsed("p")
	for _, name := range []string{"a", "A", "1", "_", "0", "aB_1", "_x", "fof", "include", "007", strings.Repeat("a", 40), strings.Repeat("9", 40), strings.Repeat("_", 40), strings.Repeat("Z", 40)} {
		checks(t, api.Entry{Name: name, Role: "axiom", Form: p}, api.OK)
		checks(t, api.Entry{Cnf: true, Name: name, Role: "plain", Form: p}, api.OK)
	}
	for _, name := range []string{"", " ", "a b", "a-b", "'a'", "$a", "a.", ".", "a\n", " a", "\x00", "\xff", "ä", "a'", strings.Repeat("a", 41), strings.Repeat("1", 500), "a\xff"} {
		checks(t, api.Entry{Name: name, Role: "axiom", Form: p}, api.ErrArg)
		checks(t, api.Entry{Cnf: true, Name: name, Role: "plain", Form: p}, api.ErrArg)
	}
	for b := range 256 {
		c := string([]byte{byte(b)})
		want := api.ErrArg
		if strings.Contains("abcdefghijklmnopqrstuvwxyzABCDEFGHIJKLMNOPQRSTUVWXYZ0123456789_", c) {
			want = api.OK
		}
		checks(t, api.Entry{Name: c, Role: "lemma", Form: p}, want)
		checks(t, api.Entry{Name: "a" + c + "a", Role: "lemma", Form: p}, want)
	}
}

func TestCheckRoles(t *testing.T) {
	p := parsed("p")
	for _, role := range roles() {
		checks(t, api.Entry{Name: "a", Role: role, Form: p}, api.OK)
		want := api.OK
		if role == "conjecture" {
			want = api.ErrRole
		}
		checks(t, api.Entry{Cnf: true, Name: "a", Role: role, Form: p}, want)
		for i := range role {
			wrong(t, role[:i])
			wrong(t, role[:i]+role[i+1:])
			wrong(t, role[:i]+strings.ToUpper(role[i:i+1])+role[i+1:], role)
			wrong(t, role[:i]+"x"+role[i:])
		}
		wrong(t, role+"s")
		wrong(t, role+" ")
		wrong(t, " "+role)
		wrong(t, "'"+role+"'")
		wrong(t, role+"\x00")
		wrong(t, "negated_"+role, "negated_conjecture")
	}
	for _, role := range []string{"", "x", "thing", "type", "unknown", "axioms", "Axiom", "AXIOM", "negatedconjecture", "negated-conjecture", "negated conjecture", "fi_domain", "cnf", "fof", "1", "\xff", strings.Repeat("axiom", 1000)} {
		wrong(t, role)
	}
}

// wrong wants a role to be none, unless it is one of those.
func wrong(t *testing.T, role string, not ...string) {
	t.Helper()
	for _, r := range not {
		if r == role {
			return
		}
	}
	checks(t, api.Entry{Name: "a", Role: role, Form: parsed("p")}, api.ErrRole)
	checks(t, api.Entry{Cnf: true, Name: "a", Role: role, Form: parsed("p")}, api.ErrRole)
}

func TestCheckForms(t *testing.T) {
	for text, want := range map[string][2]api.Errno{ // of fof, of cnf
		"p": {}, "~ p": {}, "$true": {}, "$false": {}, "~ $true": {}, "~ $false": {}, "a = b": {}, "a != b": {}, "p(f(a)) | ~ q | a = b | a != b | $true | ~ $false": {}, "p | p": {},
		"p(X)": {api.ErrFree, api.OK}, "~ p(X)": {api.ErrFree, api.OK}, "X = Y": {api.ErrFree, api.OK}, "X != a": {api.ErrFree, api.OK}, "p(X) | ~ q": {api.ErrFree, api.OK}, "q | p(f(X,a))": {api.ErrFree, api.OK},
		"! [X] : p(X)": {api.OK, api.ErrClause}, "? [X] : X = a": {api.OK, api.ErrClause}, "p & q": {api.OK, api.ErrClause}, "p => q": {api.OK, api.ErrClause}, "p <=> q": {api.OK, api.ErrClause}, "p <~> q": {api.OK, api.ErrClause}, "~ ~ p": {api.OK, api.ErrClause}, "~ a != b": {api.OK, api.ErrClause},
		"~ (p | q)": {api.OK, api.ErrClause}, "p | (q | r)": {api.OK, api.ErrClause}, "(p | q) | r": {api.OK, api.ErrClause}, "p | ~ ~ q": {api.OK, api.ErrClause}, "~ ~ ~ p": {api.OK, api.ErrClause}, "! [X] : (p(X) | q)": {api.OK, api.ErrClause}, "p | ! [X] : q(X)": {api.OK, api.ErrClause},
		"! [X] : p(X,Y)": {api.ErrFree, api.ErrClause}, "p(X) & ! [X] : p(X)": {api.ErrFree, api.ErrClause}, "! [X] : p(X) & q(X)": {api.ErrFree, api.ErrClause}, "~ ~ p(X)": {api.ErrFree, api.ErrClause}, "p(X) | (q | r)": {api.ErrFree, api.ErrClause}, "? [Y] : (p(Y) | X = Y)": {api.ErrFree, api.ErrClause},
	} {
		checks(t, fof("a", "axiom", text), want[0])
		checks(t, cnf("a", "axiom", text), want[1])
		checks(t, fof("a", "conjecture", text), want[0])
		checks(t, cnf("a", "negated_conjecture", text), want[1])
	}
}

// TestCheckFormulasThatMayNotBe: what formula.Check says goes ahead of what is no clause, and of what is free.
func TestCheckFormulasThatMayNotBe(t *testing.T) {
	x := api.Expr{Var: true, Name: "X"}
	p := parsed("p")
	deep := parsed("p(X)")
	for range 30 {
		deep = form(api.FormNot, deep)
	}
	for _, f := range []api.Form{
		{}, {Op: -1}, {Op: 13}, {Op: api.FormAtom}, form(api.FormOr), form(api.FormOr, p), form(api.FormNot), form(api.FormNot, p, p), form(api.FormAnd, p), form(api.FormImplies, p), {Op: api.FormTrue, Vars: []string{"X"}}, {Op: api.FormAtom, Terms: []api.Expr{x}}, {Op: api.FormEq, Terms: []api.Expr{x}},
		form(api.FormOr, p, api.Form{}), form(api.FormOr, p, form(api.FormNot)), {Op: api.FormAll, Vars: []string{"X", "X"}, Args: []api.Form{p}}, {Op: api.FormAll, Args: []api.Form{p}}, form(api.FormAnd, parsed("p(X)"), api.Form{}),
		deep, form(api.FormOr, many(300, p)...), form(api.FormOr, many(150, parsed("p(X)"))...), {Op: api.FormAtom, Terms: []api.Expr{{Name: "p", Args: many(7, x)}}}, {Op: api.FormEq, Terms: []api.Expr{x, {Name: "p", Args: many(301, x)}}},
	} {
		want := formula.Check(f)
		if want == api.OK {
			t.Fatal(show(f))
		}
		checks(t, api.Entry{Name: "a", Role: "axiom", Form: f}, want)
		checks(t, api.Entry{Cnf: true, Name: "a", Role: "axiom", Form: f}, want)
		checks(t, api.Entry{Name: "a", Role: "axioms", Form: f}, api.ErrRole)
		checks(t, api.Entry{Cnf: true, Name: "a", Role: "conjecture", Form: f}, api.ErrRole)
		checks(t, api.Entry{Name: "a ", Role: "axiom", Form: f}, api.ErrArg)
	}
	checks(t, api.Entry{}, api.ErrArg)
	checks(t, api.Entry{Cnf: true}, api.ErrArg)
	checks(t, api.Entry{Name: "a"}, api.ErrRole)
	checks(t, api.Entry{Name: "a", Role: "plain"}, api.ErrArg)
	checks(t, api.Entry{Name: "a", Role: "plain", Form: form(api.FormOr, many(149, p)...)}, api.OK)
	checks(t, api.Entry{Cnf: true, Name: "a", Role: "plain", Form: form(api.FormOr, many(149, p)...)}, api.OK)
}

// TestCheckInItsOrder: each fault goes ahead of those behind it, in all ways in which some are there.
func TestCheckInItsOrder(t *testing.T) {
	n := 0
	for _, name := range []string{"a", "1", "", "a b"} {
		for _, role := range []string{"axiom", "conjecture", "negated_conjecture", "thing", ""} {
			for _, f := range []api.Form{parsed("p"), parsed("p(X)"), parsed("! [X] : p(X)"), parsed("p & q(Y)"), parsed("p(X) | (q | r)"), {}, form(api.FormAnd, parsed("p(X)")), form(api.FormOr, many(301, parsed("p(X)"))...)} {
				for _, clause := range []bool{false, true} {
					x := api.Entry{Cnf: clause, Name: name, Role: role, Form: f}
					checks(t, x, plainCheck(x))
					n++
				}
			}
		}
	}
	if n != 4*5*8*2 {
		t.Error(n)
	}
}

// literals wants those of a formula, each shown; of what is no clause none.
func literals(t *testing.T, f api.Form, want []api.Form, clause bool) {
	t.Helper()
	l, ok := tptp.Literals(f)
	if ok != clause || showForms(l) != showForms(want) || !ok && l != nil {
		t.Errorf("%.300s: %.300s %v, not %.300s %v", show(f), showForms(l), ok, showForms(want), clause)
	}
}

func TestLiterals(t *testing.T) {
	for _, text := range []string{"p", "~ p", "$true", "$false", "~ $true", "~ $false", "X = Y", "a != f(X)", "p(X,a)", "~ 'P'(f(X))"} {
		literals(t, parsed(text), []api.Form{parsed(text)}, true)
		for _, other := range []string{"q", "~ q", "X != a"} {
			literals(t, parsed(text+" | "+other), []api.Form{parsed(text), parsed(other)}, true)
			literals(t, parsed(other+" | "+text+" | "+other), []api.Form{parsed(other), parsed(text), parsed(other)}, true)
		}
		for _, wrong := range []string{"~ (%s)", "~ ~ ~ %s", "(%s) & p", "(%s) => p", "(%s) <=> p", "(%s) <~> p", "! [X] : (%s)", "? [X] : (%s)", "p | ((%s) | q)", "(p | %s) | q", "p | ~ ~ (%s)", "p | ~ (%s | q)", "(%s & q) | p", "p | q | ! [X] : %s", "~ (%s | q)", "(%s) ~| q", "(%s) ~& q"} {
			if wrong == "~ (%s)" && !strings.HasPrefix(text, "~") && !strings.Contains(text, "!=") {
				continue // it is a literal
			}
			literals(t, parsed(fmt.Sprintf(wrong, text)), nil, false)
		}
	}
	literals(t, form(api.FormOr, many(1000, parsed("p(X)"))...), many(1000, parsed("p(X)")), true)
}

// TestLiteralsOfSmallFormulas: of all Ops within all Ops, three deep; formulas that may not be among them, of which the Ops alone tell, and how many Args a Not has.
func TestLiteralsOfSmallFormulas(t *testing.T) {
	level := [][]api.Form{nil, nil, nil}
	for op := api.FormOp(-1); op <= 13; op++ {
		level[0] = append(level[0], form(op))
	}
	for i := 1; i < 3; i++ {
		for op := api.FormOp(0); op <= 13; op++ {
			for _, f := range level[i-1] {
				level[i] = append(level[i], form(op, f), form(op, parsed("p"), f))
			}
		}
	}
	clauses := 0
	for _, l := range level {
		for _, f := range l {
			want, ok := plainLiterals(f)
			literals(t, f, want, ok)
			if ok {
				clauses++
			}
		}
	}
	if clauses < 200 {
		t.Error(clauses)
	}
	literals(t, api.Form{}, nil, false)
}

// plainLiterals is a second way: by what is shown of the chapter's words.
func plainLiterals(f api.Form) ([]api.Form, bool) {
	atomic := map[api.FormOp]int{api.FormAtom: 1, api.FormEq: 1, api.FormTrue: 1, api.FormFalse: 1}
	literal := func(f api.Form) bool {
		return atomic[f.Op] == 1 || f.Op == api.FormNot && len(f.Args) == 1 && atomic[f.Args[0].Op] == 1
	}
	if literal(f) {
		return []api.Form{f}, true
	}
	if f.Op != api.FormOr {
		return nil, false
	}
	var l []api.Form
	for _, g := range f.Args {
		if !literal(g) {
			return nil, false
		}
		l = append(l, g)
	}
	return l, true
}

// plainCheck is a second way: the first of all that is wrong.
func plainCheck(x api.Entry) api.Errno {
	var l []api.Errno
	if len(x.Name) == 0 || len(x.Name) > 40 || strings.Trim(x.Name, "abcdefghijklmnopqrstuvwxyzABCDEFGHIJKLMNOPQRSTUVWXYZ0123456789_") != "" {
		l = append(l, api.ErrArg)
	}
	if !strings.Contains(" "+strings.Join(roles(), " ")+" ", " "+x.Role+" ") || x.Cnf && x.Role == "conjecture" {
		l = append(l, api.ErrRole)
	}
	l = append(l, formula.Check(x.Form))
	if _, ok := plainLiterals(x.Form); !ok && x.Cnf {
		l = append(l, api.ErrClause)
	}
	if len(formula.Free(x.Form)) > 0 && !x.Cnf {
		l = append(l, api.ErrFree)
	}
	for _, e := range l {
		if e != api.OK {
			return e
		}
	}
	return api.OK
}
