package formula

import "syllogism/api"

// scope counts of each name how many Alls and Somes around have it among their Vars. A free variable that was told counts as if one more had it: so it is told once.
type scope struct {
	around map[string]int
	free   []string
}

// read leaves the counts as they were, but for what it told: binding and unbinding are as many.
func (s *scope) read(f api.Form) {
	for _, t := range f.Terms {
		s.term(t)
	}
	s.count(f, 1)
	for _, g := range fewerParts(f) {
		s.read(g)
	}
	s.count(f, -1)
}

func (s *scope) term(t api.Expr) {
	for _, x := range within(t, fewerArguments) {
		if x.Var && s.around[x.Name] == 0 {
			s.around[x.Name]++
			s.free = append(s.free, x.Name)
		}
	}
}

func (s *scope) count(f api.Form, by int) {
	if f.Op != api.FormAll && f.Op != api.FormSome {
		return
	}
	for _, v := range f.Vars {
		s.around[v] += by
	}
}
