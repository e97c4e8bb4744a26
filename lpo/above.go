package lpo

import (
	"slices"

	"syllogism/api"
)

// above tells what was found of both, or finds it.
func (s part) above(t part) bool {
	both := places{s.head().number, t.head().number}
	r, ok := s.found[both]
	if !ok {
		r = s.find(t)
		s.found[both] = r
	}
	return r == api.RelGreater
}

// find tries the reasons; covers leans on its being the last one.
func (s part) find(t part) api.Rel {
	for _, reason := range [...]func(part) bool{s.contains, s.outranks, s.leads, s.covers} {
		if reason(t) {
			return api.RelGreater
		}
	}
	return api.RelNone
}

// contains: is t a variable that stands in s, which is none?
func (s part) contains(t part) bool {
	return t.variable() && !s.variable() && slices.Contains(s.heads[s.at:s.end()], t.head())
}

// outranks: does s rank above t, and is it above each argument of t?
func (s part) outranks(t part) bool {
	return s.higher(t) && t.args().each(s.above)
}

// leads: of the same top, is the first argument that differs above that of t, and s above those behind it? (It is above those up to that one, since its own are the same, or above.)
func (s part) leads(t part) bool {
	if s.head().fun != t.head().fun {
		return false
	}
	l, m := differing(s.args(), t.args())
	if l.empty() || m.empty() {
		return !l.empty()
	}
	return l.first().above(m.first()) && m.rest().each(s.above)
}

// covers: is one of the arguments t, or above it? So that few pairs of deep terms are gone over, those that can't be are not asked. No part of s is above a variable that does not stand there. And since an argument that is t, or above it, is above all that stands in t, as s is then, too: if s ranks above t, outranks has told; of the same top, it lies behind the first that differs.
func (s part) covers(t part) bool {
	if t.variable() || s.higher(t) {
		return false
	}
	l := s.args()
	if s.head().fun == t.head().fun {
		l, _ = differing(l, t.args())
		l = l.rest()
	}
	return l.some(t.reached)
}

// reached: is s the same as t, or above it?
func (t part) reached(s part) bool { return s.same(t) || s.above(t) }

func (s part) variable() bool { return s.head().fun < 0 }

func (s part) higher(t part) bool {
	return !s.variable() && !t.variable() && s.ranks[s.head().fun] > s.ranks[t.head().fun]
}
