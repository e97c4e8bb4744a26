package tptp

import (
	"syllogism/api"
	"syllogism/formula"
	"syllogism/token"
)

func roleFits(role string, cnf bool) bool {
	switch role {
	case "axiom", "hypothesis", "definition", "assumption", "lemma", "theorem", "corollary", "plain", "negated_conjecture":
		return true
	case "conjecture":
		return !cnf
	}
	return false
}

// members are what would be a clause's literals, if the formula is one; as they lie in it.
func members(f api.Form) []api.Form {
	if f.Op == api.FormOr {
		return f.Args
	}
	return []api.Form{f}
}

func noLiteral(f api.Form) bool {
	if f.Op == api.FormNot && len(f.Args) == 1 {
		f = f.Args[0]
	}
	switch f.Op {
	case api.FormAtom, api.FormEq, api.FormTrue, api.FormFalse:
		return false
	}
	return true
}

// line asks of an entry that may be.
func line(x api.Entry) string {
	kind := fofItem
	if x.Cnf {
		kind = cnfItem
	}
	name, _ := token.Quote(x.Name)
	text, _ := formula.Text(x.Form)
	return kind + "(" + name + ", " + x.Role + ", " + text + ").\n"
}

func cloneEntry(x api.Entry) api.Entry {
	x.Form = cloneForm(x.Form)
	return x
}

// cloneForm is the first of what Parts hands over: the formula itself, which is the caller's own.
func cloneForm(f api.Form) api.Form {
	for g := range formula.Parts(f) {
		return g
	}
	return api.Form{}
}
