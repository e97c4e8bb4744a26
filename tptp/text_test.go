package tptp_test

import (
	"testing"

	"syllogism/api"
	"syllogism/tptp"
)

func TestText(t *testing.T) {
	writes(t, "")
	writes(t, "fof(a, axiom, p).\n", fof("a", "axiom", "p"))
	writes(t, "cnf(a, axiom, p).\n", cnf("a", "axiom", "p"))
	writes(t, "fof(a1, conjecture, ? [X] : (p(X) & ~ q)).\ncnf('A1', negated_conjecture, p(X) | ~ q | X = a | X != 'B').\n", fof("a1", "conjecture", "? [X] : (p(X) & ~ q)"), cnf("A1", "negated_conjecture", "p(X) | ~ q | X = a | X != 'B'"))
	writes(t, "fof('1', plain, p => q).\nfof('_', lemma, $true).\nfof('007', theorem, ~ $false).\nfof(fof, corollary, 'X' = x).\n", fof("1", "plain", "q <= p"), fof("_", "lemma", "$true"), fof("007", "theorem", "~ $false"), fof("fof", "corollary", "'X' = x"))
	writes(t, "cnf(a, plain, $false).\ncnf(a, plain, ~ $true).\ncnf(a, plain, $true | $false).\nfof(a, plain, ~ ~ p).\nfof(a, plain, ~ p != q).\n", cnf("a", "plain", "$false"), cnf("a", "plain", "~ $true"), cnf("a", "plain", "$true | $false"), fof("a", "plain", "~ ~ p"), fof("a", "plain", "~ p != q"))
	for _, role := range roles() {
		writes(t, "fof(x, "+role+", p <=> q).\n", fof("x", role, "p <=> q"))
		if role != "conjecture" {
			writes(t, "cnf(x, "+role+", p(X)).\n", cnf("x", role, "p(X)"))
		}
	}
	if text, e := tptp.Text([]api.Entry{}); text != "" || e != api.OK {
		t.Error(text, e)
	}
}

// TestTextOfWhatMayNotBe: Check's first error, of the first entry that has one.
func TestTextOfWhatMayNotBe(t *testing.T) {
	good := fof("a", "axiom", "p")
	for e, bad := range map[api.Errno]api.Entry{
		api.ErrArg:    {Name: "a b", Role: "thing", Form: parsed("p")},
		api.ErrRole:   cnf("a", "conjecture", "p & q"),
		api.ErrLong:   {Name: "a", Role: "axiom", Form: form(api.FormAnd, many(300, parsed("p(X)"))...)},
		api.ErrClause: cnf("a", "axiom", "p(X) & q"),
		api.ErrFree:   fof("a", "axiom", "p(X) & q"),
	} {
		refused(t, e, bad)
		refused(t, e, good, bad)
		refused(t, e, bad, good)
		refused(t, e, bad, api.Entry{})
		refused(t, e, bad, cnf("a", "conjecture", "p"))
		refused(t, e, good, good, bad, fof("a", "axiom", "X = X"))
		refused(t, e, good, bad, cnf("a", "axiom", "p => q"))
	}
	refused(t, api.ErrArg, api.Entry{Name: "a", Role: "axiom"})
	refused(t, api.ErrArg, api.Entry{Cnf: true, Name: "a", Role: "axiom", Form: form(api.FormOr, parsed("p"))})
}

// goes wants Role to go over those of the entries, with their places.
func goes(t *testing.T, l []api.Entry, role string, want ...int) {
	t.Helper()
	seq := tptp.Role(l, role)
	for range 2 {
		n := 0
		for i, x := range seq {
			if n >= len(want) || i != want[n] || showEntry(x) != showEntry(l[i]) {
				t.Errorf("%q: %d %s, not the next of %v", role, i, showEntry(x), want)
				return
			}
			n++
		}
		if n != len(want) {
			t.Errorf("%q: %d, not %v", role, n, want)
		}
	}
}

func TestRole(t *testing.T) {
	l := []api.Entry{fof("a", "axiom", "p"), cnf("b", "plain", "q(X)"), fof("c", "conjecture", "p"), cnf("d", "axiom", "p | q"), fof("a", "axiom", "p"), cnf("e", "negated_conjecture", "~ p")}
	goes(t, l, "axiom", 0, 3, 4)
	goes(t, l, "plain", 1)
	goes(t, l, "conjecture", 2)
	goes(t, l, "negated_conjecture", 5)
	for _, role := range []string{"lemma", "hypothesis", "thing", "", "Axiom", "axio", "axioms", "axiom ", "\xff"} {
		goes(t, l, role)
		goes(t, nil, role)
		goes(t, []api.Entry{}, role)
	}
	for i, role := range roles() {
		var all []api.Entry
		for _, r := range roles() {
			all = append(all, fof("a", r, "p"))
		}
		goes(t, all, role, i)
	}
}

// TestRoleOfEntriesThatMayNotBe: the role's text alone tells.
func TestRoleOfEntriesThatMayNotBe(t *testing.T) {
	l := []api.Entry{{}, {Role: "thing", Form: api.Form{Op: 77, Args: []api.Form{{}}}}, {Cnf: true, Role: "conjecture"}, {}, {Name: "a b", Role: "axiom", Form: api.Form{Vars: []string{""}, Terms: []api.Expr{{Var: true, Args: []api.Expr{{}}}}}}, {Role: "thing"}}
	goes(t, l, "", 0, 3)
	goes(t, l, "thing", 1, 5)
	goes(t, l, "conjecture", 2)
	goes(t, l, "axiom", 4)
}

// TestRoleLeftEarly: and gone over again, from the beginning on; one within the other.
func TestRoleLeftEarly(t *testing.T) {
	l := []api.Entry{fof("a", "axiom", "p"), fof("b", "plain", "p"), fof("c", "axiom", "p"), fof("d", "axiom", "p")}
	seq := tptp.Role(l, "axiom")
	for most := 1; most <= 4; most++ {
		got := ""
		n := 0
		for i, x := range seq {
			if l[i].Name != x.Name {
				t.Error(i, x.Name)
			}
			got += x.Name
			n++
			if n == most {
				break
			}
		}
		if got != "acd"[:min(most, 3)] {
			t.Error(most, got)
		}
	}
	got := ""
	for _, x := range seq {
		for _, y := range seq {
			if y.Name == "d" {
				break
			}
			got += x.Name + y.Name + " "
		}
	}
	if got != "aa ac ca cc da dc " {
		t.Error(got)
	}
}
