package nnf

import (
	"maps"
	"slices"
	"strconv"

	"syllogism/api"
)

// name is what a variable is called.
type name struct{ text string }

// names are those of the variables that are bound around a formula.
type names map[string]name

func (n names) of(v string) string {
	if x, ok := n[v]; ok {
		return x.text
	}
	return v
}

// telling answers what tells X0, X1, X2 and so on out, one by one, but for those that are taken.
func telling(taken []string) func() string {
	next := 0
	return func() string {
		for {
			text := "X" + strconv.Itoa(next)
			next++
			if !slices.Contains(taken, text) {
				return text
			}
		}
	}
}

// renamed tells names out as the formula is read: its own Vars' ahead of those within it.
func renamed(f api.Form, around names, tell func() string) api.Form {
	called := around
	if len(f.Vars) > 0 {
		called = maps.Clone(around)
	}
	vars := each(f.Vars, func(v string) string {
		called[v] = name{tell()}
		return called[v].text
	})
	return api.Form{
		Op:    f.Op,
		Vars:  vars,
		Terms: termsNamed(f.Terms, called.of),
		Args:  each(f.Args, func(g api.Form) api.Form { return renamed(g, called, tell) }),
	}
}
