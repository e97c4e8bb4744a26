package cnf_test

import (
	"slices"
	"strings"
	"testing"

	"syllogism/api"
	"syllogism/tptp"
)

// wrong are entries that may not be, and what tptp.Check says of them.
func wrong() map[string]api.Entry {
	p := parsed("p | q")
	return map[string]api.Entry{
		"no entry":                        {},
		"no name":                         {Role: "axiom", Form: p},
		"a name that is none":             {Name: "a b", Role: "axiom", Form: p},
		"a long name":                     {Name: strings.Repeat("n", 41), Role: "axiom", Form: p},
		"no name, no role":                {Form: p, Cnf: true},
		"no role":                         {Name: "n", Form: p},
		"a role that is none":             entry("Axiom", p),
		"a role that is none, with Cnf":   {Cnf: true, Name: "n", Role: "type", Form: p},
		"a conjecture with Cnf":           {Cnf: true, Name: "n", Role: "conjecture", Form: p},
		"no formula":                      axiom(api.Form{}),
		"no Op":                           axiom(api.Form{Op: 99}),
		"an Or of no parts":               axiom(or()),
		"an And of no parts":              axiom(and()),
		"an Or of no parts, with Cnf":     clausal(or()),
		"an Or of one part":               axiom(or(p)),
		"an And of one part":              axiom(not(and(p))),
		"a Not of two":                    axiom(form(api.FormNot, p, p)),
		"an All without Vars":             axiom(all("", p)),
		"an All with one twice":           axiom(all("X X", atom("p", v("X")))),
		"an atom that is a variable":      axiom(api.Form{Op: api.FormAtom, Terms: []api.Expr{v("X")}}),
		"an atom of two terms":            axiom(api.Form{Op: api.FormAtom, Terms: []api.Expr{of("a"), of("a")}}),
		"a name in it that is none":       axiom(and(p, atom("p", of("$true")))),
		"a variable that is none":         clausal(atom("p", v("x"))),
		"a variable with arguments":       clausal(atom("p", api.Expr{Var: true, Name: "X", Args: []api.Expr{of("a")}})),
		"too large":                       axiom(or(many(200, atom("a"))...)),
		"too deep":                        axiom(negations(31)),
		"a term too deep":                 axiom(atom("p", deep(30, of("a")))),
		"too many arguments":              axiom(atom("p", many(7, of("a"))...)),
		"no clause":                       clausal(parsed("p & q")),
		"no clause: a Not of an Or":       clausal(parsed("~ (p | q)")),
		"no clause: an Or within an Or":   clausal(parsed("(p | q) | r")),
		"no clause, with a free variable": clausal(parsed("p(X) => p(X)")),
		"no clause: an All":               clausal(parsed("! [X] : p(X)")),
		"a free variable":                 axiom(parsed("p(X)")),
		"a free variable of some":         axiom(parsed("! [X] : p(X,Y)")),
		"a free variable in a conjecture": entry("conjecture", parsed("(? [X] : p(X)) & q(X,X)")),
	}
}

func negations(n int) api.Form {
	f := yes()
	for range n - 1 {
		f = not(f)
	}
	return f
}

// TestEntriesThatMayNotBe: each at the first, at the only and at a later place; with what comes behind it.
func TestEntriesThatMayNotBe(t *testing.T) {
	good := problem("fof(a, axiom, ! [X] : ? [Y] : q(X,Y)). cnf(b, lemma, p(X) | r). fof(c, conjecture, p(a)).")
	seen := map[api.Errno]int{}
	for name, x := range wrong() {
		e := tptp.Check(x)
		if e == api.OK {
			t.Fatal(name)
		}
		seen[e]++
		for i := range len(good) + 1 {
			refuses(t, e, slices.Insert(slices.Clone(good), i, x)...)
		}
		refuses(t, e, x)
		refuses(t, e, x, x)
		refuses(t, e, append(many(199, good[0]), x)...)
		// ahead of two conjectures, of too many symbols, of what nnf and the clauses are too large for
		refuses(t, e, good[2], good[2], x)
		refuses(t, e, x, good[2], good[2])
		refuses(t, e, append(tooMany(), x)...)
		refuses(t, e, append([]api.Entry{x}, tooMany()...)...)
		refuses(t, e, axiom(tooWide()), axiom(parsed("! [A,B,C,D,E,F,G] : ? [Y] : (p(A,B,C,D,E,F) & q(G,Y))")), x)
		refuses(t, api.ErrLong, append(many(200, good[0]), x)...)
	}
	for _, e := range []api.Errno{api.ErrArg, api.ErrLong, api.ErrRole, api.ErrClause, api.ErrFree} {
		if seen[e] == 0 {
			t.Error(e, seen)
		}
	}
}

// TestFirstOfTwo: entry by entry.
func TestFirstOfTwo(t *testing.T) {
	for one, x := range wrong() {
		for two, y := range wrong() {
			l := []api.Entry{axiom(yes()), x, axiom(no()), y}
			if a := made(l); a.e != tptp.Check(x) {
				t.Error(one, two, a.e)
			}
		}
	}
}

// tooMany are entries with more symbols than there may be.
func tooMany() []api.Entry {
	return []api.Entry{axiom(and(facts("a", 60)...)), axiom(or(facts("b", 60)...))}
}

// tooWide is what nnf can't make.
func tooWide() api.Form {
	f := atom("a")
	for range 14 {
		f = iff(f, atom("b"))
	}
	return f
}

func TestConjectures(t *testing.T) {
	c := entry("conjecture", parsed("p"))
	d := entry("negated_conjecture", parsed("p"))
	fits(t, 1, c)
	fits(t, 4, c, d, d, axiom(atom("q")))
	for _, l := range [][]api.Entry{{c, c}, {c, axiom(yes()), entry("conjecture", yes())}, {d, c, d, c}, {c, c, c}, append(tooMany(), c, c), {c, axiom(tooWide()), c}, append([]api.Entry{c, c}, tooMany()...), {axiom(parsed("! [A,B,C,D,E,F,G] : ? [Y] : (p(A,B,C,D,E,F) & q(G,Y))")), c, c}} {
		refuses(t, api.ErrMany, l...)
	}
	refuses(t, api.ErrMany, many(200, c)...)
	refuses(t, api.ErrLong, many(201, c)...)
	refuses(t, api.ErrLong, append(tooMany(), c)...)
}
