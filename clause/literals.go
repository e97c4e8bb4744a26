package clause

import (
	"iter"

	"syllogism/api"
	"syllogism/term"
)

// literals is a clause, with what is asked of it here.
type literals api.Clause

// fit asks of a signature that may be. What is too long is not looked at, however long it is.
func (c literals) fit(sig api.Sig) bool {
	if len(c) > api.MaxLits {
		return false
	}
	for _, l := range c {
		if !fits(sig, l) {
			return false
		}
	}
	return true
}

// sides leaves out $true as R, which is how an atom is told and no part of it.
func (c literals) sides() iter.Seq[api.Term] {
	return func(yield func(api.Term) bool) {
		for _, l := range c {
			if !yield(l.L) || !truth(l.R) && !yield(l.R) {
				return
			}
		}
	}
}

// texts asks of a clause that may be.
func (c literals) texts(sig api.Sig) []string {
	var out []string
	for _, l := range c {
		out = append(out, text(sig, l))
	}
	return out
}

func fits(sig api.Sig, l api.Lit) bool {
	if term.Check(sig, l.L) != api.OK || term.Check(sig, l.R) != api.OK {
		return false
	}
	if truth(l.R) {
		return predicate(sig, l.L) && !truth(l.L)
	}
	return !predicate(sig, l.L) && !predicate(sig, l.R)
}

// predicate asks of a term that may be, so that its symbol is there.
func predicate(sig api.Sig, t api.Term) bool { return t.Fun >= 0 && sig.Syms[t.Fun].Pred }

func truth(t api.Term) bool { return t.Fun == 0 && len(t.Args) == 0 }

func text(sig api.Sig, l api.Lit) string {
	left, _ := term.Text(sig, l.L)
	right, _ := term.Text(sig, l.R)
	switch {
	case truth(l.R) && l.Neg:
		return "~ " + left
	case truth(l.R):
		return left
	case l.Neg:
		return left + " != " + right
	}
	return left + " = " + right
}
