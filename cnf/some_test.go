package cnf_test

import "testing"

// TestSomes: what a Some binds becomes new functions of those variables around that are free in it.
func TestSomes(t *testing.T) {
	table(t, map[string]string{
		"? [X] : p(X)":                                               "p(sk1)",
		"? [X,Y] : q(X,Y)":                                           "q(sk1,sk2)",
		"? [X,Y] : q(Y,X)":                                           "q(sk2,sk1)",
		"? [X] : ? [Y] : q(Y,X)":                                     "q(sk2,sk1)",
		"? [X] : (p(X) & ! [Y] : q(X,Y))":                            "p(sk1); q(sk1,X0)",
		"! [X] : ? [Y] : q(X,Y)":                                     "q(X0,sk1(X0))",
		"! [X] : (p(X) => ? [Y] : q(Y,Y))":                           "~ p(X0) | q(sk1,sk1)",
		"! [X,Y] : ? [Z] : r(X,Y,Z)":                                 "r(X0,X1,sk1(X0,X1))",
		"! [X,Y] : ? [Z] : r(Y,X,Z)":                                 "r(X0,X1,sk1(X1,X0))",
		"! [X] : ! [Y] : ? [Z] : r(Y,X,Z)":                           "r(X0,X1,sk1(X1,X0))",
		"! [X,Y] : (q(X,Y) | ? [Z] : q(Y,Z))":                        "q(X0,X1) | q(X1,sk1(X1))",
		"! [X,Y] : (q(X,Y) | ? [Z] : q(X,Z))":                        "q(X0,X1) | q(X0,sk1(X0))",
		"! [X,Y,Z] : (r(X,Y,Z) | ? [U,W] : s(Z,U,X,W))":              "r(X0,X1,X2) | s(X2,sk1(X0,X2),X0,sk2(X0,X2))",
		"! [X,Y,Z] : (r(X,Y,Z) | ? [U,W] : (p(U) & p(W)))":           "r(X0,X1,X2) | p(sk1); r(X0,X1,X2) | p(sk2)",
		"! [X,Y] : ? [U,W] : (q(X,U) & q(Y,W))":                      "q(X0,sk1(X0,X1)); q(X0,sk2(X1,X0))",
		"! [X] : ? [Y] : (q(X,Y) & ! [U] : ? [W] : q(U,W))":          "q(X0,sk1(X0)); q(X0,sk2(X0))",
		"(! [X] : ? [Y] : q(X,Y)) & ! [X] : ? [Y] : q(Y,X)":          "q(X0,sk1(X0)); q(sk2(X0),X0)",
		"(? [X] : p(X)) | ? [X] : q(X,X)":                            "p(sk1) | q(sk2,sk2)",
		"! [X] : ((? [Y] : q(X,Y)) => ? [Y] : q(Y,X))":               "~ q(X0,X1) | q(sk1(X0),X0)",
		"! [X] : (p(X) <=> ? [Y] : q(X,Y))":                          "~ p(X0) | q(X0,sk1(X0)); p(X0) | ~ q(X0,X1)",
		"~ ! [X] : ? [Y] : q(X,Y)":                                   "~ q(sk1,X0)",
		"~ ? [X] : ! [Y] : q(X,Y)":                                   "~ q(X0,sk1(X0))",
		"? [X] : f(X) != a":                                          "f(sk1) != a",
		"! [X] : ? [Y] : f(Y,g(X,Y)) = h(Y,Y)":                       "f(sk1(X0),g(X0,sk1(X0))) = h(sk1(X0),sk1(X0))",
		"! [X] : (q(X,X) | ? [X] : p(X))":                            "q(X0,X0) | p(sk1)",
		"? [X] : (p(X) & ? [X] : q(X,X))":                            "p(sk1); q(sk2,sk2)",
		"! [X] : ? [X] : p(X)":                                       "p(sk1)",
		"! [X] : ? [Y] : p(X)":                                       "p(X0)",
		"! [X] : ? [Y,Z] : q(X,Z)":                                   "q(X0,sk1(X0))",
		"! [X] : ? [Y] : (q(X,Y) & $true) & ? [Z] : (p(Z) | $false)": "q(X0,sk1(X0)); p(sk2)",
	})
}

// TestSomeWithinSome: the inner one's function is over what the outer one's term is over, where that stands in it; and over no more.
func TestSomeWithinSome(t *testing.T) {
	table(t, map[string]string{
		"! [X] : ? [Y] : (q(X,Y) & ? [Z] : q(Y,Z))":                                           "q(X0,sk1(X0)); q(sk1(X0),sk2(X0))",
		"! [X] : ? [Y] : (q(X,Y) & ? [Z] : p(Z))":                                             "q(X0,sk1(X0)); p(sk2)",
		"! [X,U] : ? [Y] : (r(X,Y,U) & ? [Z] : q(Y,Z))":                                       "r(X0,sk1(X0,X1),X1); q(sk1(X0,X1),sk2(X0,X1))",
		"! [X,U] : (q(U,X) | ? [Y] : (q(X,Y) & ? [Z] : q(Y,Z)))":                              "q(X0,X1) | q(X1,sk1(X1)); q(X0,X1) | q(sk1(X1),sk2(X1))",
		"! [X] : ? [Y] : ! [U] : ? [Z] : (r(X,Y,X) & q(U,Z))":                                 "r(X0,sk1(X0),X0); q(X0,sk2(X1,X0))",
		"! [X] : ? [Y] : ! [U] : (r(X,Y,U) | ? [Z] : r(U,Z,U))":                               "r(X0,sk1(X0),X1) | r(X1,sk2(X1),X1)",
		"! [X] : ? [Y] : ! [U] : (r(X,Y,U) | ? [Z] : r(U,Z,Y))":                               "r(X0,sk1(X0),X1) | r(X1,sk2(X0,X1),sk1(X0))",
		"! [X] : ? [Y] : ! [U] : (r(X,Y,U) | ? [Z] : r(Y,Z,Y))":                               "r(X0,sk1(X0),X1) | r(sk1(X0),sk2(X0),sk1(X0))",
		"? [Y] : ! [U] : (q(Y,U) | ? [Z] : q(Y,Z))":                                           "q(sk1,X0) | q(sk1,sk2)",
		"! [A] : ? [B] : ! [C] : ? [D] : ! [E] : ? [F] : (q(A,B) | q(C,D) | q(E,F) | q(B,F))": "q(X0,sk1(X0)) | q(X1,sk2(X0,X1)) | q(X2,sk3(X0,X1,X2)) | q(sk1(X0),sk3(X0,X1,X2))",
		"! [A] : ? [B] : (q(A,B) & ! [C] : ? [D] : (q(C,D) & ? [E] : q(D,E)))":                "q(X0,sk1(X0)); q(X0,sk2(X0)); q(sk2(X0),sk3(X0))",
		"! [A] : ? [B] : (q(A,B) & ! [C] : ? [D] : (r(C,D,B) & ? [E] : q(D,E)))":              "q(X0,sk1(X0)); r(X0,sk2(X1,X0),sk1(X1)); q(sk2(X0,X1),sk3(X0,X1))",
		"! [A] : ? [B,C] : (r(A,B,C) & ? [D] : q(D,C))":                                       "r(X0,sk1(X0),sk2(X0)); q(sk3(X0),sk2(X0))",
		"! [A,B] : ((? [C] : q(A,C)) | ? [D] : (q(B,D) & ? [E] : q(D,E)))":                    "q(X0,sk1(X0)) | q(X1,sk2(X1)); q(X0,sk1(X0)) | q(sk2(X1),sk3(X1))",
	})
}

// TestScopeOrder: the scope's order, not that in which variables stand in the formula; numbers come later.
func TestScopeOrder(t *testing.T) {
	table(t, map[string]string{
		"! [A,B,C,D,E,F] : ? [G] : (q(F,D) | r(E,A,B) | q(C,G))":    "q(X0,X1) | r(X2,X3,X4) | q(X5,sk1(X3,X4,X5,X1,X2,X0))",
		"! [A,B,C,D,E] : ? [G] : p(E,D,C,B,A,G)":                    "p(X0,X1,X2,X3,X4,sk1(X4,X3,X2,X1,X0))",
		"! [A] : ! [B] : ! [C] : ? [G] : p(B,C,A,G)":                "p(X0,X1,X2,sk1(X2,X0,X1))",
		"! [C] : ! [B] : ! [A] : ? [G] : p(B,C,A,G)":                "p(X0,X1,X2,sk1(X1,X0,X2))",
		"! [C,B] : ! [A] : ? [G] : p(G,A,B,C)":                      "p(sk1(X0,X1,X2),X2,X1,X0)",
		"! [B,A] : ? [G] : (p(A) | q(G))":                           "p(X0) | q(sk1(X0))",
		"! [B,A] : (r(A,B) => ? [G,H] : p(A,G,B,H))":                "~ r(X0,X1) | p(X0,sk1(X1,X0),X1,sk2(X1,X0))",
		"(! [X] : p(X)) => ! [Y] : ? [Z] : (q(Y,Z) & ? [X] : r(X))": "~ p(sk1) | q(X0,sk2(X0)); ~ p(sk1) | r(sk3)",
	})
}
