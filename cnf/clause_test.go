package cnf_test

import (
	"testing"

	"syllogism/api"
	"syllogism/subst"
)

// TestOrderOfClauses: those of an And's Args one behind the other; of an Or's the last one's change the fastest.
func TestOrderOfClauses(t *testing.T) {
	table(t, map[string]string{
		"a & b & c":                                   "a; b; c",
		"(a & b) | c | (d & e)":                       "a | c | d; a | c | e; b | c | d; b | c | e",
		"(a | b) & c & (d | (e & f))":                 "a | b; c; d | e; d | f",
		"a | (b & (c | (d & e)))":                     "a | b; a | c | d; a | c | e",
		"(a & (b | c)) | (d & (e | f))":               "a | d; a | e | f; b | c | d; b | c | e | f",
		"(! [X] : (p(X) & ! [Y] : (q(X,Y) & r))) & a": "p(X0); q(X0,X1); r; a",
		"(! [X] : (p(X) | ! [Y] : (q(X,Y) | r))) | a": "p(X0) | q(X0,X1) | r | a",
		"c & b & a & b":                               "c; b; a; b",
		"a <=> (b <=> c)":                             "~ a | ~ b | c; ~ a | b | ~ c; a | b | c; a | ~ b | ~ c",
		"(a | b) => (c & d)":                          "~ a | c; ~ a | d; ~ b | c; ~ b | d",
	})
}

// TestLiterals: how a literal of each kind comes, and what goes.
func TestLiterals(t *testing.T) {
	table(t, map[string]string{
		"p(a)":                           "p(a)",
		"~ p(a)":                         "~ p(a)",
		"a = f(b)":                       "a = f(b)",
		"f(b) = a":                       "f(b) = a",
		"a != f(b)":                      "a != f(b)",
		"a = a":                          "a = a",
		"a != a":                         "a != a",
		"p | ~ p":                        "p | ~ p",
		"p | q | p":                      "p | q",
		"p | p | p":                      "p",
		"p | p | q | q | p | r":          "p | q | r",
		"~ p | p | ~ p | p":              "~ p | p",
		"a = b | b = a | a = b":          "a = b | b = a",
		"a = b | a != b | a != b":        "a = b | a != b",
		"a = b | p | b != a | b != a":    "a = b | p | b != a",
		"p(a) | p(b) | p(a)":             "p(a) | p(b)",
		"a = a | a = b | a = a":          "a = a | a = b",
		"! [X,Y] : (p(X) | p(Y) | p(X))": "p(X0) | p(X1)",
		"! [X] : (p(X) | ! [X] : p(X))":  "p(X0) | p(X1)",
		"! [X] : (q(X,a) | q(a,X) | q(X,a) | q(X,X))": "q(X0,a) | q(a,X0) | q(X0,X0)",
		"(p & q) | p | (q & r)":                       "p | q; p | r; q | p; q | p | r",
		"(p & q) | (p & q)":                           "p; p | q; q | p; q",
		"p | (q & (p | $false))":                      "p | q; p",
		"p | $false":                                  "p",
		"$false | p | $false | q":                     "p | q",
		"p | $true":                                   "",
		"p | ~ $false":                                "",
		"p | ~ $true":                                 "p",
		"~ $true":                                     "$false",
		"~ $false":                                    "",
		"(p | $true) & q":                             "q",
		"(p & $true) | (q & $false)":                  "p",
		"(p & $false) | $false":                       "$false",
		"p & q & $false":                              "$false",
		"! [X] : (p(X) | $true)":                      "",
		"? [X] : ~ (p(X) => $false)":                  "p(sk1)",
	})
	for text, want := range map[string]string{
		"cnf(x, axiom, a = b | $false | a = b).":            "a = b",
		"cnf(x, axiom, p(X) | ~ $true | ~ q(X) | p(X)).":    "p(X0) | ~ q(X0)",
		"cnf(x, axiom, p(X) | ~ $false | ~ q(X)).":          "",
		"cnf(x, axiom, p(X) | $true | ~ q(X)).":             "",
		"cnf(x, axiom, $false | $false).":                   "$false",
		"cnf(x, axiom, ~ $true).":                           "$false",
		"cnf(x, axiom, ~ p(Y) | ~ p(Y) | ~ p(X) | p(Y)).":   "~ p(X0) | ~ p(X1) | p(X0)",
		"cnf(x, axiom, X = Y | Y = X | X != Y | X = Y).":    "X0 = X1 | X1 = X0 | X0 != X1",
		"cnf(x, axiom, X = X | p(f(X),X) | p(f(X),X)).":     "X0 = X0 | p(f(X0),X0)",
		"cnf(x, axiom, p(f(X),X) | p(f(Y),X) | p(f(X),Y)).": "p(f(X0),X0) | p(f(X1),X0) | p(f(X0),X1)",
	} {
		becomes(t, want, problem(text)...)
	}
}

// TestKindsOfTops: one name for a function and a predicate, with several numbers of arguments.
func TestKindsOfTops(t *testing.T) {
	a := becomes(t, "f(f) | f(f(f),f) | f(f) = f(f,f) | f", axiom(parsed("f(f) | f(f(f),f) | f(f) = f(f,f) | f")))
	if a.names() != " f1p f0 f2p f1 f2 f0p" {
		t.Error(a.names())
	}
}

// TestNumbersOfVariables: as subst.Normal gives them, in each clause by itself.
func TestNumbersOfVariables(t *testing.T) {
	table(t, map[string]string{
		"! [A,B,C] : (q(C,B) & (q(B,A) | p(C)) & p(B))":           "q(X0,X1); q(X0,X1) | p(X2); p(X0)",
		"! [A,B,C] : (f(C,A) = g(B) & p(A))":                      "f(X0,X1) = g(X2); p(X0)",
		"! [A,B] : ((p(B) & p(A)) | q(A,B))":                      "p(X0) | q(X1,X0); p(X0) | q(X0,X1)",
		"! [A,B] : ? [C] : (q(B,C) & q(C,A))":                     "q(X0,sk1(X1,X0)); q(sk1(X0,X1),X0)",
		"! [A,B] : (q(B,A) | p(B) | q(B,A) | p(A))":               "q(X0,X1) | p(X0) | p(X1)",
		"(! [A] : p(A)) | (! [B] : q(B,B)) | ! [A] : r(A,f(A),A)": "p(X0) | q(X1,X1) | r(X2,f(X2),X2)",
		"! [X7] : (q(X7,X7) | ! [X0] : q(X0,X7))":                 "q(X0,X0) | q(X1,X0)",
	})
	texts := []string{
		"! [A,B,C,D] : ((q(C,B) & (q(B,A) | p(D))) | (p(C) & q(D,A)))", "! [A] : ? [B] : ! [C,D] : ((p(B,C,D) & q(A,A) & r(C)) | (p(D,B,A) & q(D,C) & r(B)))",
	}
	for _, text := range texts {
		a := made([]api.Entry{axiom(parsed(text))})
		for _, c := range a.c {
			d, s := subst.Normal(c)
			b := answer{sig: a.sig, c: []api.Clause{d}, from: a.from[:1]}
			if len(s) > 0 || b.show() != (answer{sig: a.sig, c: []api.Clause{c}, from: a.from[:1]}).show() {
				t.Error(text, s)
			}
		}
		if len(a.c) == 0 || a.e != api.OK {
			t.Error(text, a.e)
		}
	}
}
