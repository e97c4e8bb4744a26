package fprint

import (
	"iter"
	"maps"
	"slices"
)

// tree is prints: of each letter that one of them begins with the tree of what follows it.
type tree map[letter]tree

func (t tree) put(p letters) {
	for _, x := range p {
		if t[x] == nil {
			t[x] = make(tree)
		}
		t = t[x]
	}
}

// drop leaves no branch behind on which there is no print any more.
func (t tree) drop(p letters) {
	var cut func(t tree, place int)
	cut = func(t tree, place int) {
		if place == len(p) {
			return
		}
		x := p[place]
		if cut(t[x], place+1); len(t[x]) == 0 {
			delete(t, x)
		}
	}
	cut(t, 0)
}

// fitting goes over the prints of which each letter stands to that of p at its place as the relation says.
func (t tree) fitting(p letters, fit relation) iter.Seq[letters] {
	return func(yield func(letters) bool) {
		var q letters
		var walk func(t tree, place int) bool
		walk = func(t tree, place int) bool {
			if place == len(p) {
				return yield(q)
			}
			for _, x := range t.asked(p[place], fit) {
				next, there := t[x]
				if !there || !fit(p[place], x) {
					continue
				}
				if q[place] = x; !walk(next, place+1) {
					return false
				}
			}
			return true
		}
		walk(t, 0)
	}
}

// asked is the letters among which all those are that fit: few, so that a tree of many symbols is not gone over for one of them. A symbol fits no other one; what else fits one symbol fits each.
func (t tree) asked(x letter, fit relation) []letter {
	if x.isSymbol() {
		return []letter{x, variable, below, nothing}
	}
	if fit(x, 0) {
		return slices.Collect(maps.Keys(t))
	}
	return []letter{variable, below, nothing}
}
