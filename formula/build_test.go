package formula_test

import (
	"fmt"
	"slices"
	"strings"
	"testing"

	"syllogism/api"
	"syllogism/formula"
	"syllogism/token"
)

func v(name string) api.Expr { return api.Expr{Var: true, Name: name} }

func of(name string, args ...api.Expr) api.Expr { return api.Expr{Name: name, Args: args} }

func form(op api.FormOp, args ...api.Form) api.Form { return api.Form{Op: op, Args: args} }

func yes() api.Form { return form(api.FormTrue) }

func no() api.Form { return form(api.FormFalse) }

func atom(name string, args ...api.Expr) api.Form {
	return api.Form{Op: api.FormAtom, Terms: []api.Expr{of(name, args...)}}
}

func eq(l, r api.Expr) api.Form { return api.Form{Op: api.FormEq, Terms: []api.Expr{l, r}} }

func not(f api.Form) api.Form { return form(api.FormNot, f) }

func and(l ...api.Form) api.Form { return form(api.FormAnd, l...) }

func or(l ...api.Form) api.Form { return form(api.FormOr, l...) }

func implies(l ...api.Form) api.Form { return form(api.FormImplies, l...) }

func iff(l ...api.Form) api.Form { return form(api.FormIff, l...) }

func xor(l ...api.Form) api.Form { return form(api.FormXor, l...) }

// all and some take their variables as one text, with blanks between.
func all(vars string, f api.Form) api.Form {
	return api.Form{Op: api.FormAll, Vars: strings.Fields(vars), Args: []api.Form{f}}
}

func some(vars string, f api.Form) api.Form {
	return api.Form{Op: api.FormSome, Vars: strings.Fields(vars), Args: []api.Form{f}}
}

// nest is a term of that depth.
func nest(depth int, t api.Expr) api.Expr {
	for range depth - 1 {
		t = of("f", t)
	}
	return t
}

// deny is a formula of that depth.
func deny(depth int, f api.Form) api.Form {
	for range depth - 1 {
		f = not(f)
	}
	return f
}

// many is a list of n times the same.
func many[E any](n int, x E) []E {
	l := make([]E, n)
	for i := range l {
		l[i] = x
	}
	return l
}

// show tells all of a formula; so two are the same just if they are shown so.
func show(f api.Form) string {
	var b strings.Builder
	fmt.Fprintf(&b, "%d%q<", f.Op, f.Vars[:len(f.Vars):len(f.Vars)])
	for _, t := range f.Terms {
		b.WriteString(showTerm(t))
	}
	b.WriteString("|")
	for _, g := range f.Args {
		b.WriteString(show(g))
	}
	return b.String() + ">"
}

func showTerm(t api.Expr) string {
	s := fmt.Sprintf("%v%q(", t.Var, t.Name)
	for _, a := range t.Args {
		s += showTerm(a)
	}
	return s + ")"
}

// same is a second way: two are shown alike.
func same(f, g api.Form) bool { return show(f) == show(g) }

func zero(f api.Form) bool {
	return f.Op == 0 && f.Vars == nil && f.Terms == nil && f.Args == nil
}

// cut is the tokens of a text without a fault.
func cut(t *testing.T, text string) []api.Token {
	t.Helper()
	l, _, e := token.Cut(text)
	if e != api.OK {
		t.Fatalf("%q: %v", text, e)
	}
	return l
}

// checks wants an answer of Check, and the same, beside no text, of Text.
func checks(t *testing.T, f api.Form, want api.Errno) {
	t.Helper()
	if e := formula.Check(f); e != want {
		t.Errorf("%.300s: Check %v, not %v", show(f), e, want)
	}
	if text, e := formula.Text(f); e != want || (text == "") != (want != api.OK) {
		t.Errorf("%.300s: Text %.100q %v, not %v", show(f), text, e, want)
	}
}

// parses wants a text to be that formula.
func parses(t *testing.T, text string, want api.Form) {
	t.Helper()
	f, at, e := formula.Parse(text)
	if e != api.OK || at != 0 || !same(f, want) {
		t.Errorf("%.200q: %.300s at %d %v, not %.300s", text, show(f), at, e, show(want))
	}
}

// faulty wants Parse to tell a fault at a place, and nothing else.
func faulty(t *testing.T, text string, at int, e api.Errno) {
	t.Helper()
	f, got, told := formula.Parse(text)
	if told != e || got != at || !zero(f) {
		t.Errorf("%.200q: %.300s at %d %v, not %d %v", text, show(f), got, told, at, e)
	}
}

// reads wants Read to tell a formula and what is behind it.
func reads(t *testing.T, l []api.Token, from int, want api.Form, next int) {
	t.Helper()
	f, got, e := formula.Read(l, from)
	if e != api.OK || got != next || !same(f, want) {
		t.Errorf("%v from %d: %.300s next %d %v, not %.300s next %d", words(l), from, show(f), got, e, show(want), next)
	}
}

// fails wants Read to tell a fault at a token, and nothing else.
func fails(t *testing.T, l []api.Token, from, next int, e api.Errno) {
	t.Helper()
	f, got, told := formula.Read(l, from)
	if told != e || got != next || !zero(f) {
		t.Errorf("%v from %d: %.300s next %d %v, not %d %v", words(l), from, show(f), got, told, next, e)
	}
}

func words(l []api.Token) string {
	var out []string
	for _, x := range l[:min(len(l), 40)] {
		out = append(out, x.Text)
	}
	return strings.Join(out, " ")
}

// writes wants a text of a formula, and the formula of the text.
func writes(t *testing.T, f api.Form, want string) {
	t.Helper()
	if text, e := formula.Text(f); text != want || e != api.OK {
		t.Errorf("%.300s: %q %v, not %q", show(f), text, e, want)
	}
	parses(t, want, f)
}

// free wants the names, in their order.
func free(t *testing.T, f api.Form, want ...string) {
	t.Helper()
	if got := formula.Free(f); !slices.Equal(got, want) {
		t.Errorf("%.300s: free %q, not %q", show(f), got, want)
	}
}

// parts is what Parts goes over.
func parts(f api.Form) []api.Form { return slices.Collect(formula.Parts(f)) }
