package formula_test

import (
	"strings"
	"testing"

	"syllogism/api"
	"syllogism/formula"
)

// plainText is what the chapter says, Op by Op.
func plainText(f api.Form) string {
	unit := func(i int) string {
		switch f.Args[i].Op {
		case api.FormAnd, api.FormOr, api.FormImplies, api.FormIff, api.FormXor:
			return "(" + plainText(f.Args[i]) + ")"
		}
		return plainText(f.Args[i])
	}
	units := func(between string) string {
		s := unit(0)
		for i := 1; i < len(f.Args); i++ {
			s += between + unit(i)
		}
		return s
	}
	switch f.Op {
	case api.FormTrue:
		return "$true"
	case api.FormFalse:
		return "$false"
	case api.FormAtom:
		return plainTerm(f.Terms[0])
	case api.FormEq:
		return plainTerm(f.Terms[0]) + " = " + plainTerm(f.Terms[1])
	case api.FormNot:
		if f.Args[0].Op == api.FormEq {
			return plainTerm(f.Args[0].Terms[0]) + " != " + plainTerm(f.Args[0].Terms[1])
		}
		return "~ " + unit(0)
	case api.FormAnd:
		return units(" & ")
	case api.FormOr:
		return units(" | ")
	case api.FormImplies:
		return units(" => ")
	case api.FormIff:
		return units(" <=> ")
	case api.FormXor:
		return units(" <~> ")
	case api.FormAll:
		return "! [" + strings.Join(f.Vars, ",") + "] : " + unit(0)
	}
	return "? [" + strings.Join(f.Vars, ",") + "] : " + unit(0)
}

func plainTerm(t api.Expr) string {
	s := t.Name
	if !t.Var && !strings.Contains("abcdefghijklmnopqrstuvwxyz", s[:1]) {
		s = "'" + s + "'"
	}
	for i, a := range t.Args {
		s += []string{"(", ","}[min(i, 1)] + plainTerm(a)
	}
	if len(t.Args) > 0 {
		s += ")"
	}
	return s
}

func TestText(t *testing.T) {
	a, b, p, x := atom("a"), atom("b"), atom("p", v("X")), v("X")
	for text, f := range map[string]api.Form{
		"$true": yes(), "$false": no(), "a": a, "p(X)": p, "'A'": atom("A"), "'X'(X,'Y',a)": atom("X", x, of("Y"), of("a")), "p(f(g(X),'1'),'_')": atom("p", of("f", of("g", x), of("1")), of("_")), "true": atom("true"), "'0'": atom("0"),
		"X = a": eq(x, of("a")), "X = X": eq(x, x), "'X' = X": eq(of("X"), x), "f(X) = 'G'(a)": eq(of("f", x), of("G", of("a"))), "X != a": not(eq(x, of("a"))), "~ X != a": not(not(eq(x, of("a")))), "~ ~ X != a": not(not(not(eq(x, of("a"))))),
		"~ a": not(a), "~ ~ a": not(not(a)), "~ $true": not(yes()), "~ (a & b)": not(and(a, b)), "~ (a | b)": not(or(a, b)), "~ (a => b)": not(implies(a, b)), "~ ! [X] : p(X)": not(all("X", p)), "~ ? [X] : X = X": not(some("X", eq(x, x))),
		"a & b": and(a, b), "a | b | a": or(a, b, a), "a => b": implies(a, b), "a <=> b": iff(a, b), "a <~> b": xor(a, b), "a & (b & a)": and(a, and(b, a)), "(a & b) & a": and(and(a, b), a), "(a => b) => a": implies(implies(a, b), a), "a => (b => a)": implies(a, implies(b, a)),
		"~ a & ~ b": and(not(a), not(b)), "X = a | X != a": or(eq(x, of("a")), not(eq(x, of("a")))), "(a | b) & (b <=> a) & ~ (a <~> b)": and(or(a, b), iff(b, a), not(xor(a, b))),
		"! [X] : p(X)": all("X", p), "? [X,Y,Z0] : p(X)": some("X Y Z0", p), "! [X] : ? [Y] : p(X)": all("X", some("Y", p)), "! [X] : (p(X) & a)": all("X", and(p, a)), "! [X] : p(X) & a": and(all("X", p), a), "! [X] : ~ (a | b)": all("X", not(or(a, b))), "! [X] : X != X": all("X", not(eq(x, x))), "a => ! [X] : (p(X) => b)": implies(a, all("X", implies(p, b))),
	} {
		writes(t, f, text)
	}
}

// TestTextOfEachInEach: and of each in each in each; at all places.
func TestTextOfEachInEach(t *testing.T) {
	put := func(f, g api.Form) []api.Form {
		var l []api.Form
		for i := range f.Args {
			h := f
			h.Args = append([]api.Form(nil), f.Args...)
			h.Args[i] = g
			l = append(l, h)
		}
		return l
	}
	n := 0
	for _, f := range each() {
		writes(t, f, plainText(f))
		for _, g := range each() {
			for _, two := range put(f, g) {
				writes(t, two, plainText(two))
				for _, h := range each()[:12] {
					for _, three := range put(h, two) {
						writes(t, three, plainText(three))
						n++
					}
				}
			}
		}
	}
	if n < 5000 {
		t.Error(n)
	}
}

// TestNamesInTexts: as a predicate, a constant and a function; those that need it stand in quotes, variables never.
func TestNamesInTexts(t *testing.T) {
	long := strings.Repeat("n", 40)
	for name, text := range map[string]string{
		"a": "a", "aB": "aB", "a_1": "a_1", long: long, "X": "'X'", "Ab": "'Ab'", "1": "'1'", "0x": "'0x'", "_": "'_'", "_a": "'_a'", "N" + long[1:]: "'N" + long[1:] + "'",
	} {
		writes(t, atom(name), text)
		writes(t, not(atom(name)), "~ "+text)
		writes(t, atom(name, of(name), of(name, v("X"))), text+"("+text+","+text+"(X))")
		writes(t, eq(of(name), of(name, of(name))), text+" = "+text+"("+text+")")
		writes(t, not(eq(of(name), v("X"))), text+" != X")
	}
	for _, name := range []string{"X", "X0", "Ab_c", "N" + long[1:]} {
		writes(t, eq(v(name), of(name)), name+" = '"+name+"'")
		writes(t, all(name, atom(name, v(name), of(name))), "! ["+name+"] : '"+name+"'("+name+",'"+name+"')")
	}
	f, _, e := formula.Parse("'p'('a','X')='b'")
	if e != api.OK {
		t.Fatal(e)
	}
	writes(t, f, "p(a,'X') = b")
}

// TestLongTexts: a text has no bound but the formula's; what is longer than a text may be can't be read.
func TestLongTexts(t *testing.T) {
	name := "N" + strings.Repeat("n", 39)
	written := "'" + name + "'"
	f := and(many(149, atom(name))...)
	want := written + strings.Repeat(" & "+written, 148)
	if text, e := formula.Text(f); text != want || e != api.OK {
		t.Errorf("%d %v", len(text), e)
	}
	writes(t, eq(of("f", many(6, of("g", many(6, of(name))...))...), of("a")), plainText(eq(of("f", many(6, of("g", many(6, of(name))...))...), of("a"))))
	g := and(many(140, atom(name))...)
	writes(t, or(g, g.Args[0]), plainText(or(g, g.Args[0])))
	six := of(name, many(6, of(name, many(6, of(name, many(6, of(name))...))...))...)
	f = eq(six, of(name, v(name)))
	if text, e := formula.Text(f); text != plainText(f) || e != api.OK || len(text) <= 8000 {
		t.Errorf("%d %v", len(text), e)
	}
	faulty(t, plainText(f), 0, api.ErrLong)
}
