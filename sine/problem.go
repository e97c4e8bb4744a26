package sine

import (
	"iter"

	"syllogism/api"
	"syllogism/formula"
)

// problem is what has to be known of the entries, of each by its place.
type problem struct {
	of      [][]api.Sym // each entry's symbols
	symbols []api.Sym   // those of all, in the order in which they come first
	common  map[api.Sym]int
	goals   []int
	axioms  []int
}

func look(l []api.Entry) *problem {
	p := &problem{common: make(map[api.Sym]int)}
	there := make(set[api.Sym])
	for i, x := range l {
		symbols := formula.Symbols(x.Form)
		p.of = append(p.of, symbols)
		p.symbols = append(p.symbols, there.put(symbols)...)
		if isGoal(x) {
			p.goals = append(p.goals, i)
			continue
		}
		p.axioms = append(p.axioms, i)
		for _, s := range symbols {
			p.common[s]++
		}
	}
	return p
}

func isGoal(x api.Entry) bool {
	return x.Role == "conjecture" || x.Role == "negated_conjecture"
}

// rounds goes over what each round chooses anew, from the first round on, till one chooses nothing. Each round looks at those symbols alone that the one ahead of it brought: what the others trigger is chosen already.
func (p *problem) rounds(tolerance int) iter.Seq[[]int] {
	return func(yield func([]int) bool) {
		triggered := p.triggered(tolerance)
		there, chosen := make(set[api.Sym]), make(set[int])
		fresh := there.put(p.symbolsOf(p.goals))
		now := chosen.put(p.bare())
		for {
			for _, s := range fresh {
				now = append(now, chosen.put(triggered[s])...)
			}
			if len(now) == 0 || !yield(now) {
				return
			}
			fresh = there.put(p.symbolsOf(now))
			now = nil
		}
	}
}

// triggered is the axioms that each symbol triggers.
func (p *problem) triggered(tolerance int) map[api.Sym][]int {
	t := make(map[api.Sym][]int)
	for _, i := range p.axioms {
		least := p.least(p.of[i])
		for _, s := range p.of[i] {
			if 10*p.common[s] <= tolerance*least {
				t[s] = append(t[s], i)
			}
		}
	}
	return t
}

// least is how common the least common one of the symbols is, 0 without any.
func (p *problem) least(l []api.Sym) int {
	n := 0
	for i, s := range l {
		if c := p.common[s]; i == 0 || c < n {
			n = c
		}
	}
	return n
}

// bare is the axioms without symbols.
func (p *problem) bare() []int {
	var l []int
	for _, i := range p.axioms {
		if len(p.of[i]) == 0 {
			l = append(l, i)
		}
	}
	return l
}

func (p *problem) symbolsOf(places []int) []api.Sym {
	var l []api.Sym
	for _, i := range places {
		l = append(l, p.of[i]...)
	}
	return l
}

func (p *problem) everything() []int {
	var l []int
	for i := range p.of {
		l = append(l, i)
	}
	return l
}
