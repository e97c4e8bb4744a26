package prec

import (
	"iter"

	"syllogism/api"
	"syllogism/sign"
	"syllogism/term"
)

// Counts: P7.2. Its words ask of a clause's terms alone that they may be: so as many literals as there are, of whatever two terms, are counted.
func Counts(sig api.Sig, clauses []api.Clause) ([]int, api.Errno) {
	if sign.Check(sig) != api.OK {
		return nil, api.ErrArg
	}
	counts := make([]int, len(sig.Syms))
	for t := range counted(clauses) {
		if term.Check(sig, t) != api.OK {
			return nil, api.ErrArg
		}
		for _, s := range term.Places(t) {
			if s.Fun >= 0 {
				counts[s.Fun]++
			}
		}
	}
	return counts, api.OK
}

// counted goes over all terms but $true as R, which each atom has and which may be over each signature.
func counted(clauses []api.Clause) iter.Seq[api.Term] {
	return func(yield func(api.Term) bool) {
		for _, c := range clauses {
			for _, l := range c {
				if !yield(l.L) || !truth(l.R) && !yield(l.R) {
					return
				}
			}
		}
	}
}

func truth(t api.Term) bool { return t.Fun == 0 && len(t.Args) == 0 }
