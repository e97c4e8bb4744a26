package sine

// set is what is there.
type set[K comparable] map[K]struct{}

// put tells which of the members were not there yet, each once.
func (s set[K]) put(l []K) []K {
	var fresh []K
	for _, x := range l {
		if _, there := s[x]; there {
			continue
		}
		s[x] = struct{}{}
		fresh = append(fresh, x)
	}
	return fresh
}
