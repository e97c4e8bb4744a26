package prec

import (
	"cmp"
	"slices"

	"syllogism/api"
)

// symbols is what the ways go by: the symbols themselves, and how often each stands in the clauses.
type symbols struct {
	syms   []api.Sym
	counts []int
}

// compare holds two symbols' numbers against each other: below 0, if the first one ranks lower.
type compare func(f, g int) int

// ranks are places in a row of all symbols, of which $true stays the first.
func (s symbols) ranks(by api.PrecBy) []int {
	row := make([]int, len(s.syms))
	for n := range row {
		row[n] = n
	}
	slices.SortFunc(row[1:], s.ranking(by))
	ranks := make([]int, len(row))
	for rank, n := range row {
		ranks[n] = rank
	}
	return ranks
}

// ranking always goes by the numbers in the end: so no two symbols have one rank.
func (s symbols) ranking(by api.PrecBy) compare {
	number := cmp.Compare[int]
	arity := func(f, g int) int { return cmp.Compare(s.syms[f].Arity, s.syms[g].Arity) }
	unary := func(f, g int) int { return cmp.Compare(s.unary(f), s.unary(g)) }
	often := func(f, g int) int { return cmp.Compare(s.counts[f], s.counts[g]) }
	seldom := func(f, g int) int { return often(g, f) }
	return []compare{
		api.PrecNumber: number,
		api.PrecArity:  chain(arity, number),
		api.PrecUnary:  chain(unary, arity, number),
		api.PrecOften:  chain(often, number),
		api.PrecSeldom: chain(seldom, number),
	}[by]
}

// chain goes by the first comparison that tells two symbols apart.
func chain(l ...compare) compare {
	return func(f, g int) int {
		var told []int
		for _, c := range l {
			told = append(told, c(f, g))
		}
		return cmp.Or(told...)
	}
}

// unary is a number, since those are what is compared.
func (s symbols) unary(n int) int {
	if s.syms[n].Arity == 1 {
		return 1
	}
	return 0
}

// weights leaves $true at the weight of a variable, whatever the way says.
func (s symbols) weights(way api.OrderWay, ranks []int) []int {
	weight := s.weighing(way.Weight, ranks)
	l := make([]int, len(ranks))
	for n := range l {
		l[n] = min(weight(n), api.MaxWeight)
	}
	l[0] = 1
	if highest := slices.Index(ranks, len(ranks)-1); way.Top && s.unary(highest) == 1 {
		l[highest] = 0
	}
	return l
}

func (s symbols) weighing(by api.WeightBy, ranks []int) func(int) int {
	return []func(int) int{
		api.WeightOne:   func(int) int { return 1 },
		api.WeightArity: func(n int) int { return s.syms[n].Arity + 1 },
		api.WeightRank:  func(n int) int { return ranks[n] + 1 },
		api.WeightOften: func(n int) int { return s.counts[n] + 1 },
	}[by]
}
