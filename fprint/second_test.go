package fprint_test

import (
	"math/rand"
	"slices"
	"strconv"
	"testing"

	"syllogism/api"
	"syllogism/fprint"
	"syllogism/term"
)

// The second way goes by the chapter's words alone: letters are texts, relations are lines of a table, an index is a list that is gone over.

// plainPrint reads each place for itself.
func plainPrint(u api.Term) []string {
	var l []string
	for _, at := range places() {
		l = append(l, plainLetter(u, at))
	}
	return l
}

func plainLetter(u api.Term, at api.Pos) string {
	for n := range at {
		if above, there := term.At(u, at[:n]); there && above.Fun < 0 {
			return "B"
		}
	}
	s, there := term.At(u, at)
	switch {
	case !there:
		return "N"
	case s.Fun < 0:
		return "A"
	}
	return strconv.Itoa(s.Fun)
}

// line tells the kinds of two letters: S of a symbol.
func line(one, other string) string {
	kind := func(x string) string {
		if x == "A" || x == "B" || x == "N" {
			return x
		}
		return "S"
	}
	return kind(one) + kind(other)
}

func plainUnify(one, other string) bool {
	switch line(one, other) {
	case "SS":
		return one == other
	case "SA", "SB", "AS", "AA", "AB", "BS", "BA", "BB", "BN", "NB", "NN":
		return true
	}
	return false
}

func plainInstance(one, other string) bool {
	switch line(one, other) {
	case "SS":
		return one == other
	case "SA", "AA", "SB", "AB", "BB", "NB", "NN":
		return true
	}
	return false
}

func plainMay(p, q []string, may func(one, other string) bool) bool {
	for i := range p {
		if !may(p[i], q[i]) {
			return false
		}
	}
	return true
}

// list is what is in an index, one behind the other, with the print as it was when it was added.
type list struct {
	pairs  []pair
	prints [][]string
}

func (l *list) add(p pair) {
	l.pairs = append(l.pairs, p)
	l.prints = append(l.prints, plainPrint(p.t))
}

func (l *list) del(p pair) bool {
	i := slices.IndexFunc(l.pairs, func(q pair) bool { return q.id == p.id && show(q.t) == show(p.t) })
	if i < 0 {
		return false
	}
	l.pairs, l.prints = slices.Delete(l.pairs, i, i+1), slices.Delete(l.prints, i, i+1)
	return true
}

func (l *list) ids(may func(q []string) bool) []int {
	var out []int
	for i, p := range l.pairs {
		if may(l.prints[i]) && !slices.Contains(out, p.id) {
			out = append(out, p.id)
		}
	}
	slices.Sort(out)
	return out
}

// asks wants that the index tells of a term what the list tells; how many it told of comes back.
func (l *list) asks(t *testing.T, n *fprint.Index, u api.Term) [3]int {
	t.Helper()
	p := plainPrint(u)
	one := l.ids(func(q []string) bool { return plainMay(p, q, plainUnify) })
	two := l.ids(func(q []string) bool { return plainMay(p, q, plainInstance) })
	three := l.ids(func(q []string) bool { return plainMay(q, p, plainInstance) })
	unifies(t, n, u, one...)
	general(t, n, u, two...)
	instances(t, n, u, three...)
	return [3]int{len(one), len(two), len(three)}
}

// TestAllPairs: both ways tell the same of all pairs of small terms, such among them as may not be.
func TestAllPairs(t *testing.T) {
	terms := append(smallTerms(), strangeTerms()...)
	var l list
	for id, u := range terms {
		l.add(pair{u, id})
	}
	n := index(t, l.pairs...)
	told := 0
	for i, u := range terms {
		for _, k := range l.asks(t, n, u) {
			told += k
		}
		for j, w := range terms {
			if got := fprint.May(u, w); got != plainMay(l.prints[i], l.prints[j], plainUnify) {
				t.Error(show(u), show(w), got)
			}
		}
	}
	if told < 10*len(terms) || told > 2*len(terms)*len(terms) {
		t.Error(told, "of", len(terms))
	}
}

// TestAllLetters: likewise of all terms with up to three arguments of which the first two have up to two, all of few symbols and a variable.
func TestAllLetters(t *testing.T) {
	low := []api.Term{of(a), of(b), x(0)}
	parts := []api.Term{of(a), of(b), x(0), x(0, of(a), of(b))}
	for n := 1; n < 3; n++ {
		for _, l := range choices(n, low) {
			parts = append(parts, of(a, l...))
		}
	}
	var l list
	put := func(u api.Term) { l.add(pair{u, len(l.pairs)}) }
	for _, top := range []api.Term{of(a), of(b), x(2)} {
		for n := range 3 {
			for _, args := range choices(n, parts) {
				put(api.Term{Fun: top.Fun, Args: args})
				if n == 2 && len(args[0].Args) < 2 {
					put(api.Term{Fun: top.Fun, Args: append(slices.Clone(args), x(1))})
				}
			}
		}
	}
	n := index(t, l.pairs...)
	for i, p := range l.pairs {
		if i%7 == 0 {
			l.asks(t, n, p.t)
		}
		for j := i % 5; j < len(l.pairs); j += 5 {
			if got := fprint.May(p.t, l.pairs[j].t); got != plainMay(l.prints[i], l.prints[j], plainUnify) {
				t.Error(show(p.t), show(l.pairs[j].t), got)
			}
		}
	}
}

type thrower struct{ *rand.Rand }

// term has symbols with one number of arguments each, unless it is strange.
func (r thrower) term(depth int, strange bool) api.Term {
	if r.Intn(4) == 0 {
		u := x(r.Intn(4))
		if strange && r.Intn(4) == 0 {
			u.Args = []api.Term{r.term(1, false)}
		}
		return u
	}
	n, arity := r.Intn(3), 0
	if depth > 1 {
		n = r.Intn(7)
		arity = []int{0, 0, 0, 1, 2, 2, 3}[n]
	}
	if strange && r.Intn(6) == 0 {
		arity = r.Intn(5)
	}
	u := of(n)
	for range arity {
		u.Args = append(u.Args, r.term(depth-1, strange && depth > 1))
	}
	return u
}

// TestThrownCalls: so it is of indexes to which much was added and from which much was taken.
func TestThrownCalls(t *testing.T) {
	r := thrower{rand.New(rand.NewSource(181))}
	var told [3]int
	in, out := 0, 0
	for round := range 150 {
		n, strange := fprint.New(), round%3 == 0
		var l list
		var seen []pair
		for range 150 {
			p := pair{r.term(1+r.Intn(4), strange), r.Intn(8)}
			if len(seen) > 0 && r.Intn(3) == 0 {
				p = seen[r.Intn(len(seen))]
			}
			seen = append(seen, p)
			if r.Intn(5) < 3 {
				add(t, n, p)
				l.add(p)
			} else if got, want := n.Del(p.t, p.id), l.del(p); got != want {
				t.Error("Del", show(p.t), p.id, got)
			} else if got {
				in++
			} else {
				out++
			}
			has(t, n, len(l.pairs))
			for i, k := range l.asks(t, n, r.term(1+r.Intn(4), strange)) {
				told[i] += k
			}
		}
	}
	if in < 1000 || out < 1000 || min(told[0], told[1], told[2]) < 10000 {
		t.Error(in, out, told)
	}
}
