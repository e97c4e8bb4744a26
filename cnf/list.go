package cnf

import "syllogism/api"

// place is that of the first member that is x.
func place[E comparable](l []E, x E) (int, bool) {
	for i, y := range l {
		if y == x {
			return i, true
		}
	}
	return 0, false
}

// each makes a list of its own of what becomes of the members.
func each[E, F any](l []E, change func(E) F) []F {
	if len(l) == 0 {
		return nil
	}
	out := make([]F, len(l))
	for i, x := range l {
		out[i] = change(x)
	}
	return out
}

// every is the same where a member may be refused: the first error is the answer.
func every[E, F any](l []E, change func(E) (F, api.Errno)) ([]F, api.Errno) {
	var out []F
	for _, x := range l {
		y, e := change(x)
		if e != api.OK {
			return nil, e
		}
		out = append(out, y)
	}
	return out, api.OK
}
