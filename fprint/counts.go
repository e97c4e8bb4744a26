package fprint

import (
	"cmp"
	"slices"
)

// counts is how often each thing is there; what is there no more has no key.
type counts[K comparable] map[K]int

func (c counts[K]) put(k K) { c[k]++ }

// take tells whether it was there.
func (c counts[K]) take(k K) bool {
	n := c[k]
	if n > 1 {
		c[k] = n - 1
	} else {
		delete(c, k)
	}
	return n > 0
}

// together is what is there in any of them, rising, each once.
func together[K cmp.Ordered](l []counts[K]) []K {
	var all []K
	for _, c := range l {
		for k := range c {
			all = append(all, k)
		}
	}
	slices.Sort(all)
	return slices.Compact(all)
}
