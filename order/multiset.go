package order

import (
	"slices"

	"syllogism/api"
)

// terms tells of a term that the order does not know, too, that it is itself: multisets are the same by what their members are.
func terms(o api.Order) func(s, t api.Term) api.Rel {
	return func(s, t api.Term) api.Rel {
		if same(s, t) {
			return api.RelEqual
		}
		return Cmp(o, s, t)
	}
}

func same(s, t api.Term) bool {
	return s.Fun == t.Fun && slices.EqualFunc(s.Args, t.Args, same)
}

// literals makes a comparison of what members tells of a literal.
func literals(o api.Order) func(a, b [][]api.Term) api.Rel {
	return multisets(multisets(terms(o)))
}

func members(l api.Lit) [][]api.Term {
	if l.Neg {
		return [][]api.Term{{l.L, l.R}}
	}
	return [][]api.Term{{l.L}, {l.R}}
}

func eachMembers(c api.Clause) [][][]api.Term {
	var all [][][]api.Term
	for _, l := range c {
		all = append(all, members(l))
	}
	return all
}

// multisets makes a comparison of multisets out of one of their members, which costs most, and so is asked once a pair at most. Those of one member each, which come most often, stand as these do.
func multisets[T any](compare func(a, b T) api.Rel) func(m, n []T) api.Rel {
	return func(m, n []T) api.Rel {
		if len(m) == 1 && len(n) == 1 {
			return compare(m[0], n[0])
		}
		g := grid{gone: make([]bool, len(n))}
		for _, a := range m {
			g.add(func(column int) api.Rel { return compare(a, n[column]) })
		}
		return g.relation()
	}
}
