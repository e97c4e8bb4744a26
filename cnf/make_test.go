package cnf_test

import (
	"fmt"
	"strings"
	"testing"

	"syllogism/api"
)

// P16.1: the chapter's examples.
func TestExamples(t *testing.T) {
	for text, want := range map[string]string{
		"fof(x, axiom, ! [X] : (p(X) => ? [Y] : r(X,Y))).": "~ p(X0) | r(X0,sk1(X0))",
		"fof(x, conjecture, ? [X] : p(X)).":                "~ p(X0)",
		"fof(x, axiom, p <=> q).":                          "~ p | q; p | ~ q",
		"fof(x, axiom, (a & b & c) | (d & e & f)).":        "def1 | def2; ~ def1 | a; ~ def1 | b; ~ def1 | c; ~ def2 | d; ~ def2 | e; ~ def2 | f",
		"cnf(x, axiom, a = b | $false | a = b).":           "a = b",
	} {
		becomes(t, want, problem(text)...)
	}
	refuses(t, api.ErrMany, problem("fof(x, conjecture, p). fof(x, conjecture, q).")...)
	a := made(problem("fof(x, conjecture, ? [X] : p(X))."))
	if len(a.from) != 1 || a.from[0] != (api.Origin{Entry: 0, Goal: true}) {
		t.Error(a.from)
	}
}

// TestWhatAnEntrySays: by its role, and with Cnf.
func TestWhatAnEntrySays(t *testing.T) {
	for _, role := range roles() {
		f := parsed("! [X] : (p(X) & ? [Y] : q(X,Y))")
		want, goal := "p(X0); q(X0,sk1(X0))", false
		if role == "conjecture" {
			want, goal = "~ p(sk1) | ~ q(sk1,X0)", true
		}
		if role == "negated_conjecture" {
			goal = true
		}
		a := becomes(t, want, entry(role, f))
		for _, from := range a.from {
			if from != (api.Origin{Entry: 0, Goal: goal}) {
				t.Error(role, from)
			}
		}
		if role == "conjecture" {
			continue
		}
		x := entry(role, parsed("p(Y) | ~ q(X,Y) | X = f(Y,Z)"))
		x.Cnf = true
		a = becomes(t, "p(X0) | ~ q(X1,X0) | X1 = f(X0,X2)", x)
		if len(a.from) != 1 || a.from[0] != (api.Origin{Entry: 0, Goal: goal}) {
			t.Error(role, a.from)
		}
	}
	for text, want := range map[string]string{
		"cnf(x, axiom, p(X)).":                                "p(X0)",
		"cnf(x, axiom, p(a)).":                                "p(a)",
		"cnf(x, axiom, ~ p(a)).":                              "~ p(a)",
		"cnf(x, axiom, X != Y | X = a).":                      "X0 != X1 | X0 = a",
		"cnf(x, negated_conjecture, p(B) | q(A,B)).":          "p(X0) | q(X1,X0)",
		"cnf(x, axiom, p | q). fof(y, axiom, p | q).":         "p | q; p | q",
		"fof(x, conjecture, p & q).":                          "~ p | ~ q",
		"fof(x, conjecture, p | q).":                          "~ p; ~ q",
		"fof(x, conjecture, ~ p).":                            "p",
		"fof(x, conjecture, ~ ~ p).":                          "~ p",
		"fof(x, conjecture, a = b).":                          "a != b",
		"fof(x, conjecture, ! [X] : ? [Y] : q(X,Y)).":         "~ q(sk1,X0)",
		"fof(x, conjecture, $true).":                          "$false",
		"fof(x, conjecture, $false).":                         "",
		"fof(x, negated_conjecture, ~ ! [X] : p(X)).":         "~ p(sk1)",
		"fof(x, conjecture, p => q). fof(y, axiom, p => q).":  "p; ~ q; ~ p | q",
		"cnf(x, axiom, $false). cnf(y, axiom, p(X) | $true).": "$false",
	} {
		becomes(t, want, problem(text)...)
	}
}

// TestNoEntries: no clause is no error; the signature is there.
func TestNoEntries(t *testing.T) {
	for _, l := range [][]api.Entry{nil, {}} {
		a := made(l)
		if a.e != api.OK || len(a.c)+len(a.from) > 0 || a.names() != "" || len(a.sig.Syms) != 1 {
			t.Error(a)
		}
	}
	a := becomes(t, "", problem("fof(x, axiom, p | $true). fof(y, axiom, $true). cnf(z, axiom, $true | q(X)). fof(w, axiom, ? [X] : (r(X) => $true)).")...)
	if a.names() != " p0p q1p r1p" {
		t.Error(a.names())
	}
	becomes(t, "$false; $false; $false", problem("fof(x, axiom, $false). cnf(y, axiom, $false | $false). fof(z, axiom, ! [X] : (p(X) & $false)).")...)
	a = becomes(t, "p; $false; q", problem("fof(a, axiom, $true). fof(b, axiom, p). fof(c, axiom, $false). fof(d, axiom, ~ $false). fof(e, axiom, q).")...)
	if fmt.Sprint(a.from) != "[{1 false} {2 false} {4 false}]" {
		t.Error(a.from)
	}
}

// TestOrigins: of clauses of several entries.
func TestOrigins(t *testing.T) {
	a := becomes(t, "p; q; ~ p | r(X0); ~ r(X0); s; t; u(X0)",
		problem("fof(a, axiom, p & q). cnf(b, plain, ~ p | r(Y)). fof(c, conjecture, ? [X] : r(X)). fof(d, negated_conjecture, s & t). fof(e, lemma, $true). cnf(f, hypothesis, u(X)).")...)
	if fmt.Sprint(a.from) != "[{0 false} {0 false} {1 false} {2 true} {3 true} {3 true} {5 false}]" {
		t.Error(a.from)
	}
}

// TestSymbols: those of all entries as they were handed in, then the new ones as they come.
func TestSymbols(t *testing.T) {
	for text, want := range map[string]string{
		"fof(x, axiom, p(f(a),b) & a = b).":                                 "p2p f1 a0 b0",
		"fof(x, axiom, a = b => p(b,a)).":                                   "a0 b0 p2p",
		"fof(x, axiom, p | $true). fof(y, axiom, q). fof(z, axiom, p | r).": "p0p q0p r0p",
		"fof(x, axiom, f(f) = f(f,f) | f(f,f) | f(f) | f).":                 "f1 f0 f2 f2p f1p f0p",
		"fof(x, axiom, ? [X] : p(X)). fof(y, axiom, ? [X] : q(X)).":         "p1p q1p sk10 sk20",
		"fof(x, conjecture, ! [X] : p(X)). fof(y, axiom, b).":               "p1p b0p sk10",
		"fof(x, axiom, ! [X] : ? [Y,Z] : p(X,Y,Z)).":                        "p3p sk11 sk21",
		"fof(x, axiom, (! [X] : ? [Y] : p(X,Y)) & ? [Z] : p(Z,Z)).":         "p2p sk11 sk20",
		"fof(x, axiom, ? [Z] : p(Z,Z) & ! [X] : ? [Y] : p(X,Y)).":           "p2p sk10 sk21",
		"fof(x, axiom, (! [X] : ? [Y] : (p(X,Y) & q & r)) | (s & t & u)).":  "p2p q0p r0p s0p t0p u0p sk11 def11p def20p",
		"cnf(x, axiom, X0 = sk). fof(y, axiom, ? [X] : X != sk0).":          "sk0 sk00 sk10",
	} {
		signed(t, text, want)
	}
	// the new symbols of one entry stand ahead of those of the next one, functions ahead of predicates
	part := "fof(x, axiom, (! [X] : ? [Y] : (p(X,Y) & q & r)) | (s & t & u))."
	signed(t, part+part, "p2p q0p r0p s0p t0p u0p sk11 def11p def20p sk21 def31p def40p")
}

// TestTakenNames: sk and def with a number that something has already, whatever it is, are left out.
func TestTakenNames(t *testing.T) {
	becomes(t, "sk1(sk3) = sk2; p(sk4)", problem("fof(x, axiom, ? [X] : sk1(X) = sk2). fof(y, axiom, ? [X] : p(X)).")...)
	becomes(t, "p(sk3); ~ sk2(a) | sk1", problem("fof(x, axiom, ? [X] : p(X)). fof(y, axiom, sk2(a) => sk1).")...)
	becomes(t, "def2 | def4; ~ def2 | a; ~ def2 | b; ~ def2 | c; ~ def4 | d; ~ def4 | e; ~ def4 | def3(def1)", problem("fof(x, axiom, (a & b & c) | (d & e & def3(def1))).")...)
	becomes(t, "p(sk1) | q(sk)", axiom(parsed("? [X] : (p(X) | q(sk))")))
	becomes(t, "p(sk1,X0) | X0 = def1", axiom(parsed("? [SK1] : ! [X] : (p(SK1,X) | X = def1)")))
	becomes(t, "p(sk1) | q(sk01,sk11)", axiom(parsed("? [X] : (p(X) | q(sk01,sk11))")))
	// a later entry's name is taken from the beginning on
	becomes(t, "p(sk2); q(sk1)", problem("fof(x, axiom, ? [X] : p(X)). fof(y, axiom, q(sk1)).")...)
}

// TestNamesOfVariables: a function that is called as a variable is none.
func TestNamesOfVariables(t *testing.T) {
	a := becomes(t, "p(X0,X0) | q(Y,X1)", axiom(parsed("! [X,Y] : (p(X,'X0') | q('Y',Y))")))
	l := a.c[0]
	if l[0].L.Args[0].Fun != -1 || l[0].L.Args[1].Fun < 0 || l[1].L.Args[0].Fun < 0 || l[1].L.Args[1].Fun != -2 {
		t.Error(a.show())
	}
}

// TestManyNames: eleven of a kind are told on.
func TestManyNames(t *testing.T) {
	var l, want []string
	for i := range 12 {
		l = append(l, fmt.Sprintf("? [X] : p%d(X)", i))
		want = append(want, fmt.Sprintf("p%d(sk%d)", i, i+1))
	}
	becomes(t, strings.Join(want, "; "), axiom(parsed(strings.Join(l, " & "))))
}
