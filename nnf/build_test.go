package nnf_test

import (
	"fmt"
	"strings"
	"testing"

	"syllogism/api"
	"syllogism/formula"
	"syllogism/nnf"
)

// call is one of the package's, by its name.
type call struct {
	name string
	do   func(api.Form) (api.Form, api.Errno)
}

func simple() call { return call{"Simple", nnf.Simple} }

func inside() call { return call{"Inside", nnf.Inside} }

func apart() call { return call{"Apart", nnf.Apart} }

func calls() []call { return []call{simple(), inside(), apart()} }

func v(name string) api.Expr { return api.Expr{Var: true, Name: name} }

func of(name string, args ...api.Expr) api.Expr { return api.Expr{Name: name, Args: args} }

func form(op api.FormOp, args ...api.Form) api.Form { return api.Form{Op: op, Args: args} }

func yes() api.Form { return form(api.FormTrue) }

func no() api.Form { return form(api.FormFalse) }

func atom(name string, args ...api.Expr) api.Form {
	return api.Form{Op: api.FormAtom, Terms: []api.Expr{of(name, args...)}}
}

func eq(l, r api.Expr) api.Form { return api.Form{Op: api.FormEq, Terms: []api.Expr{l, r}} }

func not(f api.Form) api.Form { return form(api.FormNot, f) }

func and(l ...api.Form) api.Form { return form(api.FormAnd, l...) }

func or(l ...api.Form) api.Form { return form(api.FormOr, l...) }

func implies(l ...api.Form) api.Form { return form(api.FormImplies, l...) }

func iff(l ...api.Form) api.Form { return form(api.FormIff, l...) }

func xor(l ...api.Form) api.Form { return form(api.FormXor, l...) }

// all and some take their variables as one text, with blanks between.
func all(vars string, f api.Form) api.Form {
	return api.Form{Op: api.FormAll, Vars: strings.Fields(vars), Args: []api.Form{f}}
}

func some(vars string, f api.Form) api.Form {
	return api.Form{Op: api.FormSome, Vars: strings.Fields(vars), Args: []api.Form{f}}
}

// many is a list of n times the same.
func many[E any](n int, x E) []E {
	l := make([]E, n)
	for i := range l {
		l[i] = x
	}
	return l
}

// deny is a formula of that depth.
func deny(depth int, f api.Form) api.Form {
	for range depth - 1 {
		f = not(f)
	}
	return f
}

// nest is a term of that depth.
func nest(depth int, t api.Expr) api.Expr {
	for range depth - 1 {
		t = of("f", t)
	}
	return t
}

// parsed is the formula of a text without a fault.
func parsed(text string) api.Form {
	f, at, e := formula.Parse(text)
	if e != api.OK {
		panic(fmt.Sprint(text, at, e))
	}
	return f
}

// show tells all of a formula; so two are the same just if they are shown so.
func show(f api.Form) string {
	var b strings.Builder
	showIn(&b, f)
	return b.String()
}

func showIn(b *strings.Builder, f api.Form) {
	names := map[api.FormOp]string{
		api.FormTrue: "true", api.FormFalse: "false", api.FormAtom: "atom", api.FormEq: "eq", api.FormNot: "not", api.FormAnd: "and", api.FormOr: "or",
		api.FormImplies: "implies", api.FormIff: "iff", api.FormXor: "xor", api.FormAll: "all", api.FormSome: "some",
	}
	name, ok := names[f.Op]
	if !ok {
		name = fmt.Sprint(f.Op)
	}
	b.WriteString(name)
	if len(f.Vars) > 0 {
		fmt.Fprintf(b, "%q", f.Vars)
	}
	if len(f.Terms) > 0 {
		b.WriteString("<")
		for _, t := range f.Terms {
			showTerm(b, t)
		}
		b.WriteString(">")
	}
	if len(f.Args) > 0 {
		b.WriteString("(")
		for i, g := range f.Args {
			if i > 0 {
				b.WriteString(" ")
			}
			showIn(b, g)
		}
		b.WriteString(")")
	}
}

func showTerm(b *strings.Builder, t api.Expr) {
	fmt.Fprintf(b, "%q", t.Name)
	if t.Var {
		b.WriteString("V")
	}
	b.WriteString("[")
	for _, a := range t.Args {
		showTerm(b, a)
	}
	b.WriteString("]")
}

// same is a second way: two are shown alike.
func same(f, g api.Form) bool { return show(f) == show(g) }

func zero(f api.Form) bool {
	return f.Op == 0 && f.Vars == nil && f.Terms == nil && f.Args == nil
}

// becomes wants a call to make one formula of another one.
func becomes(t *testing.T, c call, f, want api.Form) {
	t.Helper()
	if g, e := c.do(f); e != api.OK || !same(g, want) {
		t.Errorf("%s(%.400s): %.400s %v, not %.400s", c.name, show(f), show(g), e, show(want))
	}
}

// makes wants the same, of texts.
func makes(t *testing.T, c call, text, want string) {
	t.Helper()
	becomes(t, c, parsed(text), parsed(want))
}

// table wants it of a table of texts.
func table(t *testing.T, c call, lines map[string]string) {
	t.Helper()
	for text, want := range lines {
		makes(t, c, text, want)
	}
}

// refuses wants an error, and nothing else.
func refuses(t *testing.T, c call, f api.Form, want api.Errno) {
	t.Helper()
	if g, e := c.do(f); e != want || !zero(g) {
		t.Errorf("%s(%.400s): %.400s %v, not %v", c.name, show(f), show(g), e, want)
	}
}

// made is what a call makes of a formula that it takes.
func made(t *testing.T, c call, f api.Form) api.Form {
	t.Helper()
	g, e := c.do(f)
	if e != api.OK {
		t.Fatalf("%s(%.400s): %v", c.name, show(f), e)
	}
	return g
}
