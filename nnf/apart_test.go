package nnf_test

import (
	"strconv"
	"strings"
	"testing"

	"syllogism/api"
)

func TestApartExample(t *testing.T) {
	makes(t, apart(), "! [X] : (p(X) & ? [X,Y] : q(X,Y,Z))", "! [X0] : (p(X0) & ? [X1,X2] : q(X1,X2,Z))")
}

func TestApart(t *testing.T) {
	table(t, apart(), map[string]string{
		"$true":                                "$true",
		"$false":                               "$false",
		"p":                                    "p",
		"p(X,Y)":                               "p(X,Y)",
		"p(X0,X1)":                             "p(X0,X1)",
		"X0 != f(X1)":                          "X0 != f(X1)",
		"! [X] : p(X)":                         "! [X0] : p(X0)",
		"? [X] : p(X)":                         "? [X0] : p(X0)",
		"! [X0] : p(X0)":                       "! [X0] : p(X0)",
		"! [X1] : p(X1)":                       "! [X0] : p(X0)",
		"! [Y,X] : p(X,Y)":                     "! [X0,X1] : p(X1,X0)",
		"! [C,A,B] : p(A,B,C)":                 "! [X0,X1,X2] : p(X1,X2,X0)",
		"! [X1,X0] : p(X0,X1)":                 "! [X0,X1] : p(X1,X0)",
		"! [X] : $true":                        "! [X0] : $true",
		"! [X,Y] : p":                          "! [X0,X1] : p",
		"! [X] : p(Y)":                         "! [X0] : p(Y)",
		"! [X] : p('X','X0')":                  "! [X0] : p('X','X0')",
		"! [X] : 'X' = 'X'(X)":                 "! [X0] : 'X' = 'X'(X0)",
		"! [X] : f(g(X,a),X) = h(f(X))":        "! [X0] : f(g(X0,a),X0) = h(f(X0))",
		"! [A] : ! [B] : ! [C] : p(A,B,C)":     "! [X0] : ! [X1] : ! [X2] : p(X0,X1,X2)",
		"~ ! [X] : ~ ? [Y] : X != Y":           "~ ! [X0] : ~ ? [X1] : X0 != X1",
		"(! [X] : p(X)) & (? [X] : q(X))":      "(! [X0] : p(X0)) & (? [X1] : q(X1))",
		"(! [X] : p(X)) => (? [X] : q(X))":     "(! [X0] : p(X0)) => (? [X1] : q(X1))",
		"(! [X] : p(X)) <= (? [X] : q(X))":     "(! [X1] : p(X1)) <= (? [X0] : q(X0))",
		"(! [X] : p(X)) <=> (? [Y] : q(Y))":    "(! [X0] : p(X0)) <=> (? [X1] : q(X1))",
		"(! [X] : p(X)) <~> q(X)":              "(! [X0] : p(X0)) <~> q(X)",
		"p(X) | (! [X] : p(X)) | q(X)":         "p(X) | (! [X0] : p(X0)) | q(X)",
		"a & ! [X,Y] : p & ! [X] : q(X,Y)":     "a & ! [X0,X1] : p & ! [X2] : q(X2,Y)",
		"! [X] : (a & ~ ((b | p(X)) => q(X)))": "! [X0] : (a & ~ ((b | p(X0)) => q(X0)))",
	})
}

// TestApartBoundWithin: a name that is bound within the place where it is bound is the nearest one's there, and the outer one's behind it.
func TestApartBoundWithin(t *testing.T) {
	table(t, apart(), map[string]string{
		"! [X] : ! [X] : p(X)":                                         "! [X0] : ! [X1] : p(X1)",
		"! [X] : (p(X) & (? [X] : p(X)) & p(X))":                       "! [X0] : (p(X0) & (? [X1] : p(X1)) & p(X0))",
		"! [X] : ((? [X] : p(X)) & p(X) & (? [X] : q(X)) & q(X))":      "! [X0] : ((? [X1] : p(X1)) & p(X0) & (? [X2] : q(X2)) & q(X0))",
		"! [X,Y] : ((? [Y] : p(X,Y)) & (? [X] : p(X,Y)) & p(X,Y))":     "! [X0,X1] : ((? [X2] : p(X0,X2)) & (? [X3] : p(X3,X1)) & p(X0,X1))",
		"! [X] : ? [Y] : ! [X] : ? [Y] : p(X,Y)":                       "! [X0] : ? [X1] : ! [X2] : ? [X3] : p(X2,X3)",
		"! [X] : ? [Y] : (p(X,Y) | ! [X] : (q(X,Y) & ? [Y] : r(X,Y)))": "! [X0] : ? [X1] : (p(X0,X1) | ! [X2] : (q(X2,X1) & ? [X3] : r(X2,X3)))",
		// the new names are names of others within: none is taken for another one
		"! [X1] : ! [X0] : p(X0,X1)":                   "! [X0] : ! [X1] : p(X1,X0)",
		"! [X1,X0] : (p(X0,X1) & ? [X0] : p(X0,X1))":   "! [X0,X1] : (p(X1,X0) & ? [X2] : p(X2,X0))",
		"! [Y] : ! [X0] : p(Y,X0)":                     "! [X0] : ! [X1] : p(X0,X1)",
		"! [X2,X1,X0] : ! [X1] : p(X0,X1,X2)":          "! [X0,X1,X2] : ! [X3] : p(X2,X3,X0)",
		"(! [X1] : p(X1)) & (! [X0] : (p(X0) & q(Z)))": "(! [X0] : p(X0)) & (! [X1] : (p(X1) & q(Z)))",
	})
}

// TestApartLeavesFreeNames: those that are free anywhere in the formula, ahead of the place or behind it, are told out nowhere.
func TestApartLeavesFreeNames(t *testing.T) {
	table(t, apart(), map[string]string{
		"p(X0) & ! [X] : p(X)":                        "p(X0) & ! [X1] : p(X1)",
		"(! [X] : p(X)) & p(X0)":                      "(! [X1] : p(X1)) & p(X0)",
		"! [X] : p(X,X0)":                             "! [X1] : p(X1,X0)",
		"! [X,Y] : p(X,X0,Y,X1)":                      "! [X2,X3] : p(X2,X0,X3,X1)",
		"! [X,Y] : p(X,Y,X1)":                         "! [X0,X2] : p(X0,X2,X1)",
		"! [X,Y,Z] : p(X,Y,Z,X1,X3)":                  "! [X0,X2,X4] : p(X0,X2,X4,X1,X3)",
		"! [X0] : p(X0,X1)":                           "! [X0] : p(X0,X1)",
		"(! [X0] : p(X0)) & p(X0)":                    "(! [X1] : p(X1)) & p(X0)",
		"(! [X0] : p(X0)) & (! [X1] : p(X1)) & p(X0)": "(! [X1] : p(X1)) & (! [X2] : p(X2)) & p(X0)",
		"! [X1] : (p(X1) & ! [X1] : p(X1,X0))":        "! [X1] : (p(X1) & ! [X2] : p(X2,X0))",
		"! [X1] : ! [X0] : p(X0,X1,X2)":               "! [X0] : ! [X1] : p(X1,X0,X2)",
		"! [X] : p(X,X00,X01,'X0',X)":                 "! [X0] : p(X0,X00,X01,'X0',X0)",
		"! [X] : p(X,X_0,XX0,X0a)":                    "! [X0] : p(X0,X_0,XX0,X0a)",
		"! [A,B] : (p(A) & ! [X0] : p(X0,X2,X10))":    "! [X0,X1] : (p(X0) & ! [X3] : p(X3,X2,X10))",
		"(! [X0] : ! [X1] : p(X0,X1)) => p(X2,X1)":    "(! [X0] : ! [X3] : p(X0,X3)) => p(X2,X1)",
	})
}

// TestApartCountsOn: names of more digits, some of them left out.
func TestApartCountsOn(t *testing.T) {
	names := func(n, from int) string {
		var l []string
		for i := range n {
			l = append(l, "X"+strconv.Itoa(from+i))
		}
		return strings.Join(l, " ")
	}
	terms := func(names string) []api.Form {
		var l []api.Form
		for _, x := range strings.Fields(names) {
			l = append(l, atom("p", v(x)))
		}
		return l
	}
	for _, n := range []int{2, 9, 10, 11, 99, 100, 101, 480} {
		old := strings.ReplaceAll(names(n, 0), "X", "Y")
		becomes(t, apart(), all(old, and(terms(old)...)), all(names(n, 0), and(terms(names(n, 0))...)))
		free := terms("X0 X1 X2")
		becomes(t, apart(), and(free[0], some(old, and(terms(old)...)), free[2]), and(free[0], some("X1 "+names(n-1, 3), and(terms("X1 "+names(n-1, 3))...)), free[2]))
		becomes(t, apart(), and(free[0], some(old, yes()), free[2], free[1]), and(free[0], some(names(n, 3), yes()), free[2], free[1]))
	}
	one, want := []api.Form{}, []api.Form{}
	for i := range 399 {
		one = append(one, all("X", atom("p", v("X"))))
		x := "X" + strconv.Itoa(i)
		want = append(want, all(x, atom("p", v(x))))
	}
	becomes(t, apart(), and(one...), and(want...))
	deep, wanted := atom("p", v("X")), atom("p", v("X198"))
	for i := range 199 {
		deep, wanted = some("X", deep), some("X"+strconv.Itoa(198-i), wanted)
	}
	becomes(t, apart(), deep, wanted)
}

// TestApartChangesNamesAlone.
func TestApartChangesNamesAlone(t *testing.T) {
	table(t, apart(), map[string]string{
		"~ ~ ! [X] : (p(X) & ($true & ($false | ~ ~ p(X))))": "~ ~ ! [X0] : (p(X0) & ($true & ($false | ~ ~ p(X0))))",
		"! [X] : ! [Y] : $true <~> ? [Z] : a":                "! [X0] : ! [X1] : $true <~> ? [X2] : a",
	})
}
