package sine_test

import (
	"math/rand"
	"slices"
	"testing"

	"syllogism/api"
	"syllogism/sine"
)

// within: does what is chosen here stand among what is chosen there?
func within(one, other []int) bool {
	return !slices.ContainsFunc(one, func(i int) bool { return !slices.Contains(other, i) })
}

// TestNoFewer: with each greater tolerance, and with each greater depth, 0 being the greatest (P17.3).
func TestNoFewer(t *testing.T) {
	r := thrower{rand.New(rand.NewSource(174))}
	wider, deeper := 0, 0
	for range 500 {
		l := r.entries(40)
		var before [][]int
		for _, tolerance := range []int{10, 11, 13, 15, 20, 30, 100, 1000} {
			var now [][]int
			for i, depth := range []int{1, 2, 3, 5, 100, 0} {
				now = append(now, chosen(t, l, tolerance, depth))
				if i > 0 && noFewer(t, now[i-1], now[i]) {
					deeper++
				}
				if len(before) > 0 && noFewer(t, before[i], now[i]) {
					wider++
				}
			}
			before = now
		}
	}
	if wider < 500 || deeper < 500 {
		t.Error(wider, deeper)
	}
}

// noFewer tells whether they are more.
func noFewer(t *testing.T, less, more []int) bool {
	t.Helper()
	if !within(less, more) {
		t.Error(less, more)
	}
	return len(less) < len(more)
}

// TestGoalsAreChosen: always, and the places rise (P17.2, P17.3).
func TestGoalsAreChosen(t *testing.T) {
	r := thrower{rand.New(rand.NewSource(175))}
	goals := 0
	for range 2000 {
		l := r.entries(30)
		got := chosen(t, l, r.tolerance(), r.Intn(5))
		if !slices.IsSorted(got) || len(slices.Compact(slices.Clone(got))) != len(got) || !within(got, upTo(len(l))) {
			t.Error(got)
		}
		for i, x := range l {
			if x.Role != "conjecture" && x.Role != "negated_conjecture" {
				continue
			}
			if goals++; !slices.Contains(got, i) {
				t.Error(i, got)
			}
		}
	}
	if goals < 1000 {
		t.Error(goals)
	}
}

// TestNothingIsTriggered: with a depth of 0, by no symbol of what is chosen (P17.3).
func TestNothingIsTriggered(t *testing.T) {
	r := thrower{rand.New(rand.NewSource(176))}
	left := 0
	for range 1000 {
		l, tolerance := r.entries(40), r.tolerance()
		got := chosen(t, l, tolerance, 0)
		p := plainLook(l)
		for i := range l {
			if slices.Contains(got, i) {
				continue
			}
			left++
			for _, s := range p.symbols[i] {
				if p.stands(s, got) && p.triggers(s, i, tolerance) {
					t.Error(s, "triggers", i, got)
				}
			}
		}
	}
	if left < 1000 {
		t.Error(left)
	}
}

// TestAnotherOrder: the same entries are chosen, in whatever order they stand, and symbols are as common (P17.4).
func TestAnotherOrder(t *testing.T) {
	r := thrower{rand.New(rand.NewSource(177))}
	for range 1500 {
		l, tolerance, depth := r.entries(40), r.tolerance(), r.Intn(5)
		want := chosen(t, l, tolerance, depth)
		common := counts(l)
		for range 4 {
			places := r.Perm(len(l))
			var turned []api.Entry
			for _, i := range places {
				turned = append(turned, l[i])
			}
			var got []int
			for _, i := range chosen(t, turned, tolerance, depth) {
				got = append(got, places[i])
			}
			if slices.Sort(got); !slices.Equal(got, want) {
				t.Error(places, got, want)
			}
			for s, n := range counts(turned) {
				if m, there := common[s]; n != m || !there {
					t.Error(s, n, m)
				}
			}
		}
	}
}

func counts(l []api.Entry) map[api.Sym]int {
	out := make(map[api.Sym]int)
	symbols, n := sine.Common(l)
	for i, s := range symbols {
		out[s] = n[i]
	}
	return out
}

// TestFurtherGoals: a goal more leaves out nothing that was chosen, since it changes nothing in how common the symbols are.
func TestFurtherGoals(t *testing.T) {
	r := thrower{rand.New(rand.NewSource(178))}
	for range 1000 {
		l := append(r.entries(30), entry("conjecture", "p1"))
		tolerance, depth := r.tolerance(), r.Intn(4)
		less := chosen(t, l, tolerance, depth)
		more := chosen(t, append(l, api.Entry{Role: "negated_conjecture", Form: r.form(3)}), tolerance, depth)
		if !within(less, more) {
			t.Error(less, more)
		}
	}
}
