package kbo

import (
	"cmp"

	"syllogism/api"
)

// side is where a term lies on a balance.
type side int

const (
	left side = iota
	right
)

// balance weighs two terms, and counts their variables, while they are gone over together just once: so terms that differ deep inside need no second look at each depth.
type balance struct {
	order   api.Order
	vars    map[int]int // how much more often a variable lies on the left
	alone   [2]int      // how many lie on a side that the other side has none for
	weights [2]int64
}

// compare leans on the balance's having as many of each variable on both sides. So it is at first, and behind arguments that were the same.
func (b *balance) compare(s, t api.Term) api.Rel {
	before := b.weights
	r := b.reason(s, t)
	if c := cmp.Compare(capped(b.weights[left]-before[left]), capped(b.weights[right]-before[right])); c != 0 {
		r = relation(c)
	}
	if r == api.RelGreater && b.alone[right] > 0 || r == api.RelLess && b.alone[left] > 0 {
		return api.RelNone
	}
	return r
}

// reason lays both on the balance, and tells how they stand if they weigh the same.
func (b *balance) reason(s, t api.Term) api.Rel {
	if s.Fun != t.Fun {
		b.lay(s, left)
		b.lay(t, right)
		return tops(b.order, s, t)
	}
	b.count(s, left)
	b.count(t, right)
	return b.arguments(s.Args, t.Args)
}

// arguments tells how the first ones that differ stand, and lays those behind them, too.
func (b *balance) arguments(s, t []api.Term) api.Rel {
	r := api.RelEqual
	for r == api.RelEqual && len(s) > 0 && len(t) > 0 {
		r = b.compare(s[0], t[0])
		s, t = s[1:], t[1:]
	}
	if r == api.RelEqual {
		r = relation(cmp.Compare(len(s), len(t)))
	}
	for _, a := range s {
		b.lay(a, left)
	}
	for _, a := range t {
		b.lay(a, right)
	}
	return r
}

func (b *balance) lay(t api.Term, at side) {
	each(t, func(s api.Term) bool {
		b.count(s, at)
		return true
	})
}

// count lays a term's top alone.
func (b *balance) count(t api.Term, at side) {
	b.weights[at] += weight(b.order, t)
	if t.Fun >= 0 {
		return
	}
	by := [...]int{left: 1, right: -1}[at]
	if b.vars[t.Fun]*by >= 0 {
		b.alone[at]++
	} else {
		b.alone[1-at]--
	}
	b.vars[t.Fun] += by
}

// tops tells how two terms with other tops stand if they weigh the same.
func tops(o api.Order, s, t api.Term) api.Rel {
	switch {
	case s.Fun < 0 && t.Fun < 0:
		return api.RelNone
	case s.Fun < 0:
		return turned(tops(o, t, s))
	case t.Fun < 0 && !around(s, t):
		return api.RelNone
	case t.Fun < 0 || o.Prec[s.Fun] > o.Prec[t.Fun]:
		return api.RelGreater
	case o.Prec[s.Fun] == o.Prec[t.Fun]:
		return api.RelNone
	}
	return api.RelLess
}

// around: is s one symbol, again and again, around a variable?
func around(s, variable api.Term) bool {
	top := s.Fun
	for s.Fun == top && len(s.Args) == 1 {
		s = s.Args[0]
	}
	return s.Fun == variable.Fun
}

// relation tells what a comparison of numbers, below 0, 0 or above it, says.
func relation(c int) api.Rel {
	switch {
	case c > 0:
		return api.RelGreater
	case c < 0:
		return turned(relation(-c))
	}
	return api.RelEqual
}

func turned(r api.Rel) api.Rel {
	return [...]api.Rel{
		api.RelNone:    api.RelNone,
		api.RelLess:    api.RelGreater,
		api.RelEqual:   api.RelEqual,
		api.RelGreater: api.RelLess,
	}[r]
}
