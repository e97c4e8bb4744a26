package formula

import (
	"slices"

	"syllogism/api"
	"syllogism/token"
)

// amount is how many there are at least and at most.
type amount struct{ least, most int }

func (a amount) holds(n int) bool { return a.least <= n && n <= a.most }

// kind is what formulas of an Op have, and how they are written: as a word, with a sign between their parts, or with one ahead of their Vars.
type kind struct {
	vars, terms, args    amount
	word, between, ahead string
}

// kinds has no greater bound than MaxSize where the document has none: a formula of more is too long.
var kinds = [...]kind{
	api.FormTrue:    {word: "$true"},
	api.FormFalse:   {word: "$false"},
	api.FormAtom:    {terms: amount{1, 1}},
	api.FormEq:      {terms: amount{2, 2}},
	api.FormNot:     {args: amount{1, 1}},
	api.FormAnd:     {args: amount{2, api.MaxSize}, between: " & "},
	api.FormOr:      {args: amount{2, api.MaxSize}, between: " | "},
	api.FormImplies: {args: amount{2, 2}, between: " => "},
	api.FormIff:     {args: amount{2, 2}, between: " <=> "},
	api.FormXor:     {args: amount{2, 2}, between: " <~> "},
	api.FormAll:     {vars: amount{1, api.MaxSize}, args: amount{1, 1}, ahead: "! ["},
	api.FormSome:    {vars: amount{1, api.MaxSize}, args: amount{1, 1}, ahead: "? ["},
}

// long leaves at the first limit that is passed: so it ends soon, whatever a formula has or shares.
func long(f api.Form) bool {
	size := 0
	for depth, g := range within(f, parts) {
		size += 1 + len(g.Vars)
		if size > api.MaxSize || depth > api.MaxDepth {
			return true
		}
		for _, t := range g.Terms {
			for depth, x := range within(t, arguments) {
				size++
				if size > api.MaxSize || depth > api.MaxDepth || len(x.Args) > api.MaxArity {
					return true
				}
			}
		}
	}
	return false
}

// fits asks of a formula that is not too long.
func fits(f api.Form) bool {
	for _, g := range within(f, parts) {
		if !itselfFits(g) {
			return false
		}
	}
	return true
}

func itselfFits(f api.Form) bool {
	if f.Op < api.FormTrue || f.Op > api.FormSome {
		return false
	}
	k := kinds[f.Op]
	switch {
	case !k.vars.holds(len(f.Vars)) || !k.terms.holds(len(f.Terms)) || !k.args.holds(len(f.Args)):
		return false
	case f.Op == api.FormAtom && f.Terms[0].Var:
		return false
	}
	return varsFit(f.Vars) && !slices.ContainsFunc(f.Terms, misfit)
}

func varsFit(vars []string) bool {
	for i, v := range vars {
		if !upper(v) || slices.Contains(vars[:i], v) {
			return false
		}
	}
	return true
}

func misfit(t api.Expr) bool {
	for _, x := range within(t, arguments) {
		if x.Var && (!upper(x.Name) || len(x.Args) > 0) || !token.Name(x.Name) {
			return true
		}
	}
	return false
}

// upper: is it one upper token? Such a token is a name that begins with a great letter.
func upper(name string) bool {
	return token.Name(name) && 'A' <= name[0] && name[0] <= 'Z'
}
