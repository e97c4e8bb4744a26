package unify

import "syllogism/api"

// none is the number of no part.
const none = -1

// part is a symbol or a variable, and where the numbers of its arguments begin and end in the graph's row.
type part struct{ fun, from, to int }

// shape is what the parts of a set become: one of them that has a symbol; if none has, the variable with the least number.
type shape struct{ symbol, least int }

// graph is the parts of terms, by their numbers: a symbol has one each time that it stands there, a variable one for all times.
type graph struct {
	parts []part
	args  []int
	vars  [wide]int // 1 more than the variable's number as a part; 0: it doesn't stand there
	sets  sets[shape]
	order []int // the sets that variables reach, each behind those of its arguments
}

// room is a graph that so many parts go into without being laid anew.
func room(size int) *graph {
	return &graph{
		parts: make([]part, 0, size),
		args:  make([]int, 0, size),
		sets:  sets[shape]{over: make([]int, 0, size), values: make([]shape, 0, size)},
	}
}

// solve joins what must become the same; false, if there is no unifier.
func (g *graph) solve(l [][2]api.Term) bool {
	for _, p := range l {
		if !g.join(g.lay(p[0]), g.lay(p[1])) {
			return false
		}
	}
	return g.arrange()
}

func (g *graph) lay(t api.Term) int {
	if t.Fun < 0 {
		return g.variable(-1 - t.Fun)
	}
	from := len(g.args)
	n := g.add(part{t.Fun, from, from + len(t.Args)}, shape{symbol: len(g.parts), least: wide})
	g.args = append(g.args, make([]int, len(t.Args))...)
	for i, a := range t.Args {
		at := g.lay(a) // ahead of the row, which may be another one then
		g.args[from+i] = at
	}
	return n
}

func (g *graph) variable(v int) int {
	if g.vars[v] == 0 {
		g.vars[v] = 1 + g.add(part{fun: -1 - v}, shape{symbol: none, least: v})
	}
	return g.vars[v] - 1
}

func (g *graph) add(p part, s shape) int {
	g.parts = append(g.parts, p)
	return g.sets.add(s)
}

// join makes two sets one, and those of their arguments in turn; false, if their symbols differ.
func (g *graph) join(a, b int) bool {
	todo := [][2]int{{a, b}}
	for len(todo) > 0 {
		p := todo[len(todo)-1]
		todo = todo[:len(todo)-1]
		if g.sets.top(p[0]) == g.sets.top(p[1]) {
			continue
		}
		x, y := g.sets.value(p[0]), g.sets.value(p[1])
		if x.symbol != none && y.symbol != none {
			if !g.alike(x.symbol, y.symbol) {
				return false
			}
			others := g.row(y.symbol)
			for i, n := range g.row(x.symbol) {
				todo = append(todo, [2]int{n, others[i]})
			}
		}
		g.sets.join(p[0], p[1], shape{symbol: max(x.symbol, y.symbol), least: min(x.least, y.least)})
	}
	return true
}

// alike: terms that may be over no signature have one symbol with several numbers of arguments.
func (g *graph) alike(a, b int) bool {
	return g.parts[a].fun == g.parts[b].fun && len(g.row(a)) == len(g.row(b))
}

func (g *graph) row(n int) []int { return g.args[g.parts[n].from:g.parts[n].to] }

// inside is what stands in what a set becomes.
func (g *graph) inside(n int) []int {
	if s := g.sets.value(n); s.symbol != none {
		return g.row(s.symbol)
	}
	return nil
}

// visit is a set that is gone into, and which of its arguments comes next.
type visit struct{ set, next int }

// How far the walk has come with a set: not there yet, gone into, through.
const (
	fresh = iota
	begun
	ended
)

// arrange puts the sets that variables reach in order; false, if one stands in itself. Other sets need no look: a ring goes through a variable, since what stands in a term as it is read comes to an end.
func (g *graph) arrange() bool {
	state := make([]int, len(g.parts))
	for _, n := range g.vars {
		if n != 0 && !g.walk(g.sets.top(n-1), state) {
			return false
		}
	}
	return true
}

// walk goes on its own row, not by calls: a way through many variables may be long.
func (g *graph) walk(from int, state []int) bool {
	if state[from] == ended {
		return true
	}
	way := []visit{{set: from}}
walk:
	for len(way) > 0 {
		at := &way[len(way)-1]
		state[at.set] = begun
		for l := g.inside(at.set); at.next < len(l); at.next++ {
			n := g.sets.top(l[at.next])
			if state[n] == begun {
				return false
			}
			if state[n] == fresh {
				way = append(way, visit{set: n})
				continue walk
			}
		}
		state[at.set] = ended
		g.order = append(g.order, at.set)
		way = way[:len(way)-1]
	}
	return true
}

// small tells whether all that variables become keeps to the limits. It stops at the first set that does not, so no size is counted far above its limit, though it may double from set to set.
func (g *graph) small() bool {
	sizes, depths := make([]int, len(g.parts)), make([]int, len(g.parts))
	for _, n := range g.order {
		size, depth := 1, 1
		for _, a := range g.inside(n) {
			a = g.sets.top(a)
			size += sizes[a]
			depth = max(depth, 1+depths[a])
		}
		if size > api.MaxSize || depth > api.MaxDepth {
			return false
		}
		sizes[n], depths[n] = size, depth
	}
	return true
}

// unifier leaves out what stays as it is.
func (g *graph) unifier() api.Subst {
	var s api.Subst
	for v, n := range g.vars {
		if n == 0 || g.sets.value(n-1) == (shape{symbol: none, least: v}) {
			continue
		}
		s = append(s, api.Bind{Var: v, T: g.term(n - 1)})
	}
	return s
}

// term is made anew each time, so that no two terms share what stands in both.
func (g *graph) term(n int) api.Term {
	s := g.sets.value(n)
	if s.symbol == none {
		return api.Term{Fun: -1 - s.least}
	}
	t := api.Term{Fun: g.parts[s.symbol].fun}
	if l := g.row(s.symbol); len(l) > 0 {
		t.Args = make([]api.Term, len(l))
		for i, a := range l {
			t.Args[i] = g.term(a)
		}
	}
	return t
}
