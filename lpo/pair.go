package lpo

import "syllogism/api"

// head is the top of what stands at a place, how many places that takes up, and a number that only what is the same has.
type head struct{ fun, size, number int }

// places are two of them, by the numbers of what stands there: what is found of both holds wherever else the same two stand.
type places struct{ s, t int }

// link is a part, and the argument that makes another part of it, with one more.
type link struct{ before, last int }

// pair is two terms that are held against each other: their heads lie as they are read, those of the second behind those of the first.
type pair struct {
	ranks []int
	heads []head
	links map[link]int
	found map[places]api.Rel
}

// lay tells false, if the order does not know the terms.
func lay(o api.Order, s, t api.Term) (one, two part, known bool) {
	p := &pair{ranks: o.Prec, links: map[link]int{}, found: map[places]api.Rel{}}
	if !p.lay(s) {
		return part{}, part{}, false
	}
	behind := len(p.heads)
	if !p.lay(t) {
		return part{}, part{}, false
	}
	return part{p, 0}, part{p, behind}, true
}

func (p *pair) lay(t api.Term) bool {
	if t.Fun >= len(p.ranks) || t.Fun < 0 && len(t.Args) > 0 {
		return false
	}
	at := len(p.heads)
	p.heads = append(p.heads, head{fun: t.Fun})
	number := t.Fun
	for _, a := range t.Args {
		next := len(p.heads)
		if !p.lay(a) {
			return false
		}
		number = p.link(number, p.heads[next].number)
	}
	p.heads[at].size, p.heads[at].number = len(p.heads)-at, number
	return true
}

// link gives numbers that no symbol and no variable by itself has.
func (p *pair) link(before, last int) int {
	l := link{before, last}
	n, ok := p.links[l]
	if !ok {
		n = len(p.ranks) + len(p.links)
		p.links[l] = n
	}
	return n
}

// part is what stands at a place of one of both.
type part struct {
	*pair
	at int
}

func (s part) head() head { return s.heads[s.at] }

func (s part) end() int { return s.at + s.head().size }

func (s part) args() row { return row{s.pair, s.at + 1, s.end()} }

func (s part) same(t part) bool { return s.head() == t.head() }

// row is arguments, one behind the other, from one place on up to another.
type row struct {
	*pair
	from, to int
}

func (l row) empty() bool { return l.from >= l.to }

func (l row) first() part { return part{l.pair, l.from} }

func (l row) rest() row {
	if l.empty() {
		return l
	}
	return row{l.pair, l.first().end(), l.to}
}

func (l row) some(holds func(part) bool) bool {
	for ; !l.empty(); l = l.rest() {
		if holds(l.first()) {
			return true
		}
	}
	return false
}

func (l row) each(holds func(part) bool) bool {
	return !l.some(func(a part) bool { return !holds(a) })
}

// differing leaves out of both what is the same at their beginning.
func differing(l, m row) (row, row) {
	for !l.empty() && !m.empty() && l.first().same(m.first()) {
		l, m = l.rest(), m.rest()
	}
	return l, m
}
