package fprint_test

import (
	"math"
	"slices"
	"strings"
	"testing"

	"syllogism/api"
	"syllogism/fprint"
)

func places() []api.Pos {
	return []api.Pos{{}, {0}, {1}, {2}, {0, 0}, {0, 1}, {1, 0}, {1, 1}}
}

// built has that letter (60 or 61, A, B, N) at a place, and else what all such terms of the place have.
func built(at api.Pos, letter string) api.Term {
	end := map[string]api.Term{"60": of(60), "61": of(61), "A": x(7)}
	if len(at) == 0 {
		u := end[letter]
		u.Args = []api.Term{of(a), of(b)}
		return u
	}
	if len(at) == 1 && letter == "B" {
		return x(3)
	}
	var before []api.Term
	for range at[0] {
		before = append(before, of(a))
	}
	switch {
	case len(at) > 1 && letter == "B":
		return of(h, append(before, x(3))...)
	case len(at) > 1:
		return of(h, append(before, built(at[1:], letter))...)
	case letter == "N":
		return of(h, before...)
	}
	return of(h, append(before, end[letter])...)
}

// kinds is which letters there are at a place: on top something stands, with nothing above it.
func kinds(at api.Pos) []string {
	if len(at) == 0 {
		return []string{"60", "61", "A"}
	}
	return []string{"60", "61", "A", "B", "N"}
}

func among(letter, l string) bool { return slices.Contains(strings.Fields(l), letter) }

// TestLettersAtEachPlace: each held against each, both ways, in May and in the index.
func TestLettersAtEachPlace(t *testing.T) {
	unify := map[string]string{"60": "60 A B", "61": "61 A B", "A": "60 61 A B", "B": "60 61 A B N", "N": "B N"}
	// Below a variable something may be only of what has a variable above, too.
	instanceOf := map[string]string{"60": "60 A B", "61": "61 A B", "A": "A B", "B": "B", "N": "B N"}
	for _, at := range places() {
		for _, mine := range kinds(at) {
			u := built(at, mine)
			for _, other := range kinds(at) {
				w := built(at, other)
				n := index(t, pair{w, 4})
				for _, ask := range []struct {
					what      string
					got, want bool
				}{
					{"May", fprint.May(u, w), among(other, unify[mine])},
					{"May turned", fprint.May(w, u), among(other, unify[mine])},
					{"Unify", len(n.Unify(u)) == 1, among(other, unify[mine])},
					{"General", len(n.General(u)) == 1, among(other, instanceOf[mine])},
					{"Instances", len(n.Instances(u)) == 1, among(mine, instanceOf[other])},
				} {
					if ask.got != ask.want {
						t.Error(ask.what, at, show(u), show(w), ask.got)
					}
				}
			}
		}
	}
}

// full has a symbol of its own at each place, as many more as it has nodes beyond.
func full() api.Term {
	return of(20, of(21, of(24, of(30)), of(25, of(31)), of(32)), of(22, of(26, of(33)), of(27, of(34)), of(35)), of(23, of(36), of(37)), of(38), of(39))
}

// change is the term with something else done to what stands at a place.
func change(t *testing.T, u api.Term, at api.Pos, do func(*api.Term)) api.Term {
	t.Helper()
	u = copied(u)
	p := &u
	for _, i := range at {
		p = &p.Args[i]
	}
	do(p)
	return u
}

func copied(u api.Term) api.Term {
	out := api.Term{Fun: u.Fun}
	for _, c := range u.Args {
		out.Args = append(out.Args, copied(c))
	}
	return out
}

// TestOneSymbolDiffers: at each of the places alone it tells terms apart, and what stands beyond them doesn't.
func TestOneSymbolDiffers(t *testing.T) {
	u := full()
	for _, at := range places() {
		w := change(t, u, at, func(p *api.Term) { p.Fun += 40 })
		n := index(t, pair{w, 4})
		all(t, n, u)
		all(t, n, w, 4)
		all(t, index(t, pair{u, 4}), w)
		if fprint.May(u, w) || fprint.May(w, u) {
			t.Error(show(u), show(w))
		}
	}
}

// TestOneVariable: at each place alone it is more general than a symbol there, whatever arguments either has.
func TestOneVariable(t *testing.T) {
	u := full()
	for _, at := range places() {
		for _, w := range []api.Term{
			change(t, u, at, func(p *api.Term) { p.Fun = -1 }),
			change(t, u, at, func(p *api.Term) { *p = x(9) }),
			change(t, u, at, func(p *api.Term) { *p = x(9, of(90), x(0, of(91)), of(92), of(93)) }),
		} {
			n := index(t, pair{w, 4})
			unifies(t, n, u, 4)
			general(t, n, u, 4)
			instances(t, n, u)
			n = index(t, pair{u, 4})
			unifies(t, n, w, 4)
			general(t, n, w)
			instances(t, n, w, 4)
			if !fprint.May(u, w) || !fprint.May(w, u) {
				t.Error(show(u), show(w))
			}
			// Of two of them the variable's own number and arguments tell nothing.
			all(t, index(t, pair{w, 4}), change(t, u, at, func(p *api.Term) { *p = x(1) }), 4)
		}
	}
}

// TestBeyondThePlaces: what is deeper or wider than they reach tells nothing.
func TestBeyondThePlaces(t *testing.T) {
	u := full()
	for _, at := range []api.Pos{{3}, {4}, {0, 2}, {1, 2}, {2, 0}, {2, 1}, {0, 0, 0}, {0, 1, 0}, {1, 0, 0}, {1, 1, 0}} {
		for _, w := range []api.Term{
			change(t, u, at, func(p *api.Term) { p.Fun += 40 }),
			change(t, u, at, func(p *api.Term) { *p = x(3) }),
			change(t, u, at, func(p *api.Term) { *p = nest(50, of(h, x(0), x(1))) }),
			change(t, u, at[:len(at)-1], func(p *api.Term) { p.Args = append(p.Args, of(a), x(0)) }),
			change(t, u, at[:len(at)-1], func(p *api.Term) { p.Args = p.Args[:at[len(at)-1]] }),
		} {
			all(t, index(t, pair{w, 4}), u, 4)
			all(t, index(t, pair{u, 4}), w, 4)
			if !fprint.May(u, w) || !fprint.May(w, u) {
				t.Error(show(u), show(w))
			}
		}
	}
}

// TestFewerArguments: a symbol with fewer at a place is told from one with more.
func TestFewerArguments(t *testing.T) {
	u := full()
	for _, l := range []struct {
		at   api.Pos
		from int
	}{{api.Pos{}, 0}, {api.Pos{}, 1}, {api.Pos{}, 2}, {api.Pos{0}, 0}, {api.Pos{0}, 1}, {api.Pos{1}, 0}, {api.Pos{1}, 1}} {
		w := change(t, u, l.at, func(p *api.Term) { p.Args = p.Args[:l.from] })
		all(t, index(t, pair{w, 4}), u)
		all(t, index(t, pair{u, 4}), w)
		if fprint.May(u, w) || fprint.May(w, u) {
			t.Error(show(u), show(w))
		}
	}
}

// TestGreatNumbers: symbols and variables far beyond what a signature has, and symbol 0.
func TestGreatNumbers(t *testing.T) {
	symbols := []int{0, 1, 95, 96, 1 << 20, 1 << 31, 1 << 32, math.MaxInt, math.MaxInt - 1}
	variables := []int{-1, -2, -3, -4, -48, -49, -96, -1 << 31, -1 << 32, math.MinInt + 1, math.MinInt}
	n := fprint.New()
	for i, s := range symbols {
		add(t, n, pair{of(s, of(s)), i})
	}
	var every []int
	for i, s := range symbols {
		every = append(every, i)
		all(t, n, of(s, of(s)), i)
		unifies(t, n, of(s, x(0)), i)
		unifies(t, n, of(s, of(f)))
	}
	for _, v := range variables {
		u := api.Term{Fun: v}
		unifies(t, n, u, every...)
		general(t, n, u)
		instances(t, n, u, every...)
		m := index(t, pair{u, 7}, pair{of(f, u), 8})
		for _, s := range symbols {
			unifies(t, m, of(s, of(a)), 7)
			general(t, m, of(f, of(s)), 7, 8)
			instances(t, m, of(f, of(s)))
		}
		for _, w := range variables {
			other := api.Term{Fun: w, Args: []api.Term{of(a)}}
			unifies(t, m, other, 7, 8)
			general(t, m, other, 7)
			instances(t, m, other, 7, 8)
			unifies(t, m, of(f, other), 7, 8)
			general(t, m, of(f, other), 7, 8)
			instances(t, m, of(f, other), 8)
		}
	}
}
