package order

import (
	"slices"

	"syllogism/api"
)

// grid is how the members of one multiset stand to those of another: a row each for those of the first that are left, a column each for all of the second.
type grid struct {
	rels []api.Rel
	rows []int  // where each one begins
	gone []bool // the columns that are not left
}

// add takes a member into the grid; or, if the same is left in a column, it takes that out: both have it.
func (g *grid) add(compare func(column int) api.Rel) {
	row := len(g.rels)
	for column, gone := range g.gone {
		r := api.RelNone
		if !gone {
			r = compare(column)
		}
		if r == api.RelEqual {
			g.gone[column] = true
			g.rels = g.rels[:row]
			return
		}
		g.rels = append(g.rels, r)
	}
	g.rows = append(g.rows, row)
}

func (g *grid) relation() api.Rel {
	columns := g.columns()
	switch {
	case len(g.rows) == 0 && len(columns) == 0:
		return api.RelEqual
	case above(g.rows, columns, g.stand):
		return api.RelGreater
	case above(columns, g.rows, g.turned):
		return api.RelLess
	}
	return api.RelNone
}

// columns are those that are left.
func (g *grid) columns() []int {
	var left []int
	for column, gone := range g.gone {
		if !gone {
			left = append(left, column)
		}
	}
	return left
}

func (g *grid) stand(row, column int) api.Rel { return g.rels[row+column] }

func (g *grid) turned(column, row int) api.Rel {
	return [...]api.Rel{
		api.RelNone:    api.RelNone,
		api.RelLess:    api.RelGreater,
		api.RelEqual:   api.RelEqual,
		api.RelGreater: api.RelLess,
	}[g.stand(row, column)]
}

// above: has each of the second ones one of the first that is above it?
func above(first, second []int, stand func(i, j int) api.Rel) bool {
	for _, j := range second {
		if !slices.ContainsFunc(first, func(i int) bool { return stand(i, j) == api.RelGreater }) {
			return false
		}
	}
	return true
}
