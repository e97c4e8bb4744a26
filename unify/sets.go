package unify

// sets is numbers, from 0 on, in sets that are joined. A set has one value; when two are joined, the one who joins them tells which.
type sets[E any] struct {
	over   []int // another one of the set, nearer to the one that stands for it, which is over itself
	values []E
}

// add is a new number, in a set by itself.
func (s *sets[E]) add(value E) int {
	n := len(s.over)
	s.over = append(s.over, n)
	s.values = append(s.values, value)
	return n
}

// top is the number that stands for the set. The way there is halved, so that it stays short.
func (s *sets[E]) top(n int) int {
	for s.over[n] != n {
		s.over[n] = s.over[s.over[n]]
		n = s.over[n]
	}
	return n
}

func (s *sets[E]) value(n int) E { return s.values[s.top(n)] }

func (s *sets[E]) join(a, b int, value E) {
	a, b = s.top(a), s.top(b)
	s.over[b] = a
	s.values[a] = value
}
