package sine_test

import (
	"testing"

	"syllogism/api"
)

func TestExampleOfCommon(t *testing.T) {
	hasCommon(t, "p/1! 2, a/0 1, b/0 1, q/0! 2, r/0! 1, s/0! 1", asked("a = a", "p(a)", "p(b) & q", "q & r", "s")...)
}

// TestCommonOfAxioms: in how many of them a symbol stands, not how often.
func TestCommonOfAxioms(t *testing.T) {
	hasCommon(t, "p/1! 1, a/0 1", axioms("p(a) & p(a) & ~ p(a)")...)
	hasCommon(t, "p/1! 2, f/1 2, a/0 1, b/0 1", axioms("p(f(f(f(a))))", "p(b) | p(f(b))")...)
	hasCommon(t, "p/1! 3", axioms("! [X] : p(X)", "? [X,Y] : (p(X) <=> p(Y))", "! [X] : ~ p(X)")...)
	hasCommon(t, "f/2 1, g/1 1, a/0 1, p/0! 1, q/0! 1, r/0! 1, s/0! 1", axioms("! [X] : (f(g(X),a) = X | (p => (q <~> (r & ~ s))))")...)
}

// TestCommonOrder: entry by entry, as each is read, each symbol once.
func TestCommonOrder(t *testing.T) {
	hasCommon(t, "c/0 2, b/0 2, p/2! 2, a/0 1, q/1! 1", axioms("c = b", "p(a,b)", "q(c) & p(c,c)")...)
	hasCommon(t, "z/0! 1, y/0! 2, x/0! 1", axioms("z & y", "x | y")...)
	l := []api.Entry{entry("conjecture", "b & a"), entry("axiom", "a & c"), entry("negated_conjecture", "d & c"), entry("axiom", "e & b")}
	hasCommon(t, "b/0! 1, a/0! 1, c/0! 1, d/0! 0, e/0! 1", l...)
}

// TestCommonOfGoals: what stands in goals alone is told, and stands in no axiom.
func TestCommonOfGoals(t *testing.T) {
	hasCommon(t, "p/1! 0, a/0 0", entry("conjecture", "p(a)"))
	hasCommon(t, "p/1! 0, a/0 0", entry("negated_conjecture", "p(a)"))
	hasCommon(t, "p/1! 1, a/0 0, b/0 1", entry("conjecture", "p(a)"), entry("axiom", "p(b)"), entry("negated_conjecture", "p(b) & p(a)"))
	for _, role := range axiomRoles() {
		hasCommon(t, "p/1! 2, a/0 1, b/0 1", entry(role, "p(a)"), entry("axiom", "p(b)"), entry("conjecture", "p(a)"))
	}
}

// TestSymbolsThatDiffer: by name, arity or kind; each of them is one of its own.
func TestSymbolsThatDiffer(t *testing.T) {
	hasCommon(t, "p/1! 2, a/0 1, b/0 1, p/2! 1, p/0 2, p/0! 1", axioms("p(a)", "p(b)", "p(p,p)", "p", "p = p")...)
	hasCommon(t, "p/1! 2, p/1 1, a/0 2, A/0 1", axioms("p(p(a))", "p(a) | 'A' = a")...)
}

// TestNoSymbols: variables, equality, $true and $false are none.
func TestNoSymbols(t *testing.T) {
	hasCommon(t, "")
	hasCommon(t, "", axioms("$true", "$false", "! [X,Y] : X = Y", "$true & ~ $false", "? [X] : X != X")...)
	hasCommon(t, "", entry("conjecture", "$false"))
	hasCommon(t, "q/1! 1", axioms("$true", "! [X] : q(X)")...)
}

// TestCommonOfAnyEntries: what may not be is gone through likewise; whoever is no goal is an axiom.
func TestCommonOfAnyEntries(t *testing.T) {
	hasCommon(t, "", api.Entry{}, api.Entry{Role: "conjecture"})
	for _, role := range []string{"", "nonsense", "Conjecture", "conjecture ", "negated", "goal"} {
		hasCommon(t, "p/1! 1, a/0 1", entry(role, "p(a)"))
	}
	x := entry("axiom", "p(a)")
	x.Name, x.Cnf = "not a name", true
	hasCommon(t, "p/1! 2, a/0 2", x, entry("axiom", "p(a)"))
	x.Role = "conjecture"
	hasCommon(t, "p/1! 1, a/0 1", x, entry("axiom", "p(a)"))
	strange := api.Form{Op: 77, Terms: []api.Expr{{Name: "f", Args: make([]api.Expr, 7)}, {Var: true, Name: "X"}}, Args: []api.Form{parsed("q(b)"), {Op: api.FormAtom}}}
	hasCommon(t, "f/7 1, /0 1, q/1! 1, b/0 1", api.Entry{Form: strange})
	wide := api.Form{Op: api.FormAtom, Terms: []api.Expr{{Name: "p"}, {Name: "-"}}}
	hasCommon(t, "p/0! 1, -/0! 1", api.Entry{Form: wide}, api.Entry{Role: "conjecture", Form: wide})
}
