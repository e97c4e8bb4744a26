package cnf_test

import (
	"fmt"
	"strings"
	"testing"

	"syllogism/api"
)

// TestCountsOfOr: 8 is not too much, 9 is.
func TestCountsOfOr(t *testing.T) {
	table(t, map[string]string{
		"(a & b) | (c & d)":                          "a | c; a | d; b | c; b | d",
		"(a & b) | c":                                "a | c; b | c",
		"(a & b & c) | (d & e)":                      "a | d; a | e; b | d; b | e; c | d; c | e",
		"(a & b) | (c & d) | (e & f)":                "a | c | e; a | c | f; a | d | e; a | d | f; b | c | e; b | c | f; b | d | e; b | d | f",
		"(a & b & c & d) | (e & f)":                  "a | e; a | f; b | e; b | f; c | e; c | f; d | e; d | f",
		"(a & b & c) | (d & e & f)":                  "def1 | def2; ~ def1 | a; ~ def1 | b; ~ def1 | c; ~ def2 | d; ~ def2 | e; ~ def2 | f",
		"a | (b & c & d & e & f & g)":                "a | b; a | c; a | d; a | e; a | f; a | g",
		"(a & b & c & d & e) | (f & g)":              "def1 | def2; ~ def1 | a; ~ def1 | b; ~ def1 | c; ~ def1 | d; ~ def1 | e; ~ def2 | f; ~ def2 | g",
		"(a & b & c) | g | (d & e & f)":              "def1 | g | def2; ~ def1 | a; ~ def1 | b; ~ def1 | c; ~ def2 | d; ~ def2 | e; ~ def2 | f",
		"~ g | (a & b & c) | a != b | ~ (d | e | f)": "~ g | def1 | a != b | def2; ~ def1 | a; ~ def1 | b; ~ def1 | c; ~ def2 | ~ d; ~ def2 | ~ e; ~ def2 | ~ f",
	})
	eight, nine := and(facts("a", 8)...), and(facts("a", 9)...)
	b := atom("b")
	fits(t, 8, axiom(or(eight, b)))
	a := fits(t, 10, axiom(or(nine, b)))
	if a.texts()[0] != "def1 | b" || a.texts()[9] != "~ def1 | a8" {
		t.Error(a.texts())
	}
	// an And of a great count needs no new predicate
	fits(t, 9, axiom(nine))
	fits(t, 17, axiom(and(nine, or(b, eight))))
}

// TestCountsThrough: All and Some count what is within them; And sums, Or multiplies.
func TestCountsThrough(t *testing.T) {
	table(t, map[string]string{
		"(! [X] : (p(X) & q(X,X) & r)) | (a & b & c)":                       "def1(X0) | def2; ~ def1(X0) | p(X0); ~ def1(X0) | q(X0,X0); ~ def1(X0) | r; ~ def2 | a; ~ def2 | b; ~ def2 | c",
		"(? [X] : (p(X) & q(X,X) & r)) | (a & b & c)":                       "def1 | def2; ~ def1 | p(sk1); ~ def1 | q(sk1,sk1); ~ def1 | r; ~ def2 | a; ~ def2 | b; ~ def2 | c",
		"! [X] : ((? [Y] : (p(X) & q(X,Y) & r)) | (a & b & c))":             "def1(X0) | def2; ~ def1(X0) | p(X0); ~ def1(X0) | q(X0,sk1(X0)); ~ def1(X0) | r; ~ def2 | a; ~ def2 | b; ~ def2 | c",
		"(a & (b | (c & d))) | (e & f & g)":                                 "def1 | def2; ~ def1 | a; ~ def1 | b | c; ~ def1 | b | d; ~ def2 | e; ~ def2 | f; ~ def2 | g",
		"(a & (b | c)) | (d & e)":                                           "a | d; a | e; b | c | d; b | c | e",
		"(a & (b | (c & d))) | (e & f)":                                     "a | e; a | f; b | c | e; b | c | f; b | d | e; b | d | f",
		"(a & ((b & h) | (c & d))) | (e & f)":                               "def1 | def2; ~ def1 | a; ~ def1 | b | c; ~ def1 | b | d; ~ def1 | h | c; ~ def1 | h | d; ~ def2 | e; ~ def2 | f",
		"(! [X] : (p(X) | r)) | (a & b & c) | (d & e)":                      "p(X0) | r | a | d; p(X0) | r | a | e; p(X0) | r | b | d; p(X0) | r | b | e; p(X0) | r | c | d; p(X0) | r | c | e",
		"(! [X] : (p(X) | r)) | (a & b & c) | (d & e & f)":                  "p(X0) | r | def1 | def2; ~ def1 | a; ~ def1 | b; ~ def1 | c; ~ def2 | d; ~ def2 | e; ~ def2 | f",
		"(! [X] : (p(X) | (r & s))) | (a & b & c) | g | (d & e)":            "def1(X0) | def2 | g | def3; ~ def1(X0) | p(X0) | r; ~ def1(X0) | p(X0) | s; ~ def2 | a; ~ def2 | b; ~ def2 | c; ~ def3 | d; ~ def3 | e",
		"(a <=> b) | (c <=> d)":                                             "~ a | b | ~ c | d; ~ a | b | c | ~ d; a | ~ b | ~ c | d; a | ~ b | c | ~ d",
		"(a <=> b) | (c <=> d) | (e & f & g)":                               "def1 | def2 | def3; ~ def1 | ~ a | b; ~ def1 | a | ~ b; ~ def2 | ~ c | d; ~ def2 | c | ~ d; ~ def3 | e; ~ def3 | f; ~ def3 | g",
		"~ ((a | b | c) & (d | e | f))":                                     "def1 | def2; ~ def1 | ~ a; ~ def1 | ~ b; ~ def1 | ~ c; ~ def2 | ~ d; ~ def2 | ~ e; ~ def2 | ~ f",
		"g & ((a & b & c) | (d & e & f)) & h":                               "g; def1 | def2; h; ~ def1 | a; ~ def1 | b; ~ def1 | c; ~ def2 | d; ~ def2 | e; ~ def2 | f",
		"! [X] : (g(X) & ((p(X) & b & c) | ! [Y] : (d & q(Y,X) & q(X,Y))))": "g(X0); def1(X0) | def2(X1,X0); ~ def1(X0) | p(X0); ~ def1(X0) | b; ~ def1(X0) | c; ~ def2(X0,X1) | d; ~ def2(X0,X1) | q(X0,X1); ~ def2(X0,X1) | q(X1,X0)",
	})
}

// TestVariablesOfParts: a new predicate is over the variables of its part, in the order in which they stand in it first, those in new functions too.
func TestVariablesOfParts(t *testing.T) {
	table(t, map[string]string{
		"! [X,Y,Z] : ((q(Z,X) & p(Y) & r) | (a & b & c))":                "def1(X0,X1,X2) | def2; ~ def1(X0,X1,X2) | q(X0,X1); ~ def1(X0,X1,X2) | p(X2); ~ def1(X0,X1,X2) | r; ~ def2 | a; ~ def2 | b; ~ def2 | c",
		"! [X,Y,Z] : ((p(Z) & p(Y) & r) | (p(X) & b & q(Y,Y)) | q(Z,X))": "def1(X0,X1) | def2(X2,X1) | q(X0,X2); ~ def1(X0,X1) | p(X0); ~ def1(X0,X1) | p(X1); ~ def1(X0,X1) | r; ~ def2(X0,X1) | p(X0); ~ def2(X0,X1) | b; ~ def2(X0,X1) | q(X1,X1)",
		"! [X,Y] : ? [Z] : ((q(X,Y) & p(Z) & r) | (p(Z) & b & c))":       "def1(X0,X1) | def2(X0,X1); ~ def1(X0,X1) | q(X0,X1); ~ def1(X0,X1) | p(sk1(X0,X1)); ~ def1(X0,X1) | r; ~ def2(X0,X1) | p(sk1(X0,X1)); ~ def2(X0,X1) | b; ~ def2(X0,X1) | c",
		"! [X,Y] : ? [Z] : ((q(Y,X) & p(Z) & r) | (p(Z) & b & c))":       "def1(X0,X1) | def2(X1,X0); ~ def1(X0,X1) | q(X0,X1); ~ def1(X0,X1) | p(sk1(X1,X0)); ~ def1(X0,X1) | r; ~ def2(X0,X1) | p(sk1(X0,X1)); ~ def2(X0,X1) | b; ~ def2(X0,X1) | c",
		"! [X] : ((X = a & p(X) & f(X) != X) | (b & c & d))":             "def1(X0) | def2; ~ def1(X0) | X0 = a; ~ def1(X0) | p(X0); ~ def1(X0) | f(X0) != X0; ~ def2 | b; ~ def2 | c; ~ def2 | d",
	})
}

// TestPartsWithinParts: what is put off is read when its turn comes, behind what was put off ahead of it.
func TestPartsWithinParts(t *testing.T) {
	table(t, map[string]string{
		// an Or within an And that is put off
		"(a & ((b & c & d) | (e & f & g))) | (h & i)": "def1 | def2; ~ def1 | a; ~ def1 | def3 | def4; ~ def2 | h; ~ def2 | i; ~ def3 | b; ~ def3 | c; ~ def3 | d; ~ def4 | e; ~ def4 | f; ~ def4 | g",
		// two of them: the second one's parts behind the first one's
		"(a & ((b & c & d) | (e & f & g))) | (h & ((i & j & k) | (l & m & n)))": "def1 | def2; ~ def1 | a; ~ def1 | def3 | def4; ~ def2 | h; ~ def2 | def5 | def6; " +
			"~ def3 | b; ~ def3 | c; ~ def3 | d; ~ def4 | e; ~ def4 | f; ~ def4 | g; ~ def5 | i; ~ def5 | j; ~ def5 | k; ~ def6 | l; ~ def6 | m; ~ def6 | n",
		// an Or that is a part of an Or itself
		"(! [X] : (p(X) | (a & b & c & d & e & f & g & h & i))) | j": "def1(X0) | j; ~ def1(X0) | p(X0) | def2; ~ def2 | a; ~ def2 | b; ~ def2 | c; ~ def2 | d; ~ def2 | e; ~ def2 | f; ~ def2 | g; ~ def2 | h; ~ def2 | i",
		// two Ors in one And: all parts of the first one ahead, within as well
		"((a & b & c) | (d & ((i & j & k) | (l & m & n)))) & ((o & p & q) | (r & s & t))": "def1 | def2; def3 | def4; ~ def1 | a; ~ def1 | b; ~ def1 | c; ~ def2 | d; ~ def2 | def5 | def6; ~ def3 | o; ~ def3 | p; ~ def3 | q; ~ def4 | r; ~ def4 | s; ~ def4 | t; " +
			"~ def5 | i; ~ def5 | j; ~ def5 | k; ~ def6 | l; ~ def6 | m; ~ def6 | n",
		// an Or of a small count within one that is put off stays
		"(a & ((b & c) | (d & e))) | (f & g & h)": "def1 | def2; ~ def1 | a; ~ def1 | b | d; ~ def1 | b | e; ~ def1 | c | d; ~ def1 | c | e; ~ def2 | f; ~ def2 | g; ~ def2 | h",
		// three deep
		"(a & ((b & ((c & d & e) | (f & g & h))) | (i & j))) | (k & l)": "def1 | def2; ~ def1 | a; ~ def1 | def3 | def4; ~ def2 | k; ~ def2 | l; ~ def3 | b; ~ def3 | def5 | def6; ~ def4 | i; ~ def4 | j; " +
			"~ def5 | c; ~ def5 | d; ~ def5 | e; ~ def6 | f; ~ def6 | g; ~ def6 | h",
		// functions come ahead of predicates, wherever they stand
		"((? [X] : p(X)) & b & c) | (d & e & ? [Y] : q(Y,Y))": "def1 | def2; ~ def1 | p(sk1); ~ def1 | b; ~ def1 | c; ~ def2 | d; ~ def2 | e; ~ def2 | q(sk2,sk2)",
	})
	signed(t, "fof(x, axiom, ((? [X] : p(X)) & b & c) | (d & e & ? [Y] : q(Y,Y))).", "p1p b0p c0p d0p e0p q2p sk10 sk20 def10p def20p")
}

// level is an Iff of Iffs, so deep: each turns the count of one below into twice its square. The lowest ones' count is 2.
func level(n int) api.Form {
	if n == 0 {
		return atom("a")
	}
	return iff(level(n-1), level(n-1))
}

// TestGreatCounts: such as no number holds are great ones.
func TestGreatCounts(t *testing.T) {
	for _, n := range []int{4, 12, 14, 16, 17, 31, 32, 33, 63, 64, 65, 74} {
		f := or(many(n, and(atom("a"), atom("b")))...)
		if n > 16 {
			refuses(t, api.ErrLong, axiom(f))
			continue
		}
		a := fits(t, 1+2*n, axiom(f))
		want := strings.Join(each(n, func(i int) string { return fmt.Sprint("def", i+1) }), " | ")
		if got := a.texts()[0]; got != want {
			t.Errorf("%d: %s, not %s", n, got, want)
		}
	}
	inner := or(and(facts("a", 21)...), and(facts("b", 21)...))
	a := fits(t, 1+2+2*(21+21), axiom(or(and(inner, inner), atom("c"))))
	if a.texts()[0] != "def1 | c" || a.texts()[1] != "~ def1 | def2 | def3" || a.texts()[2] != "~ def1 | def4 | def5" {
		t.Error(a.texts()[:3])
	}
	// eight of 128 and three of 8 are 2^65: each part gives way, those of 128 have two Ors of 64 with two parts each
	a = fits(t, 1+8*2+3*8+8*4*8, axiom(or(append(many(8, level(3)), many(3, level(2))...)...)))
	if a.texts()[0] != strings.Join(each(11, func(i int) string { return fmt.Sprint("def", i+1) }), " | ") || len(a.sig.Syms) != 2+11+32 {
		t.Error(a.texts()[0], a.names())
	}
	// two of 32768, and what is more than 10000 beside one
	for _, f := range []api.Form{or(level(4), atom("a")), or(atom("a"), level(4), level(3))} {
		if a := made([]api.Entry{axiom(f)}); a.e != api.OK || a.c[0][len(a.c[0])-1].L.Fun == 1 == (len(f.Args) == 3) {
			t.Error(a.e, a.texts())
		}
	}
}
