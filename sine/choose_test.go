package sine_test

import (
	"fmt"
	"math"
	"testing"

	"syllogism/api"
	"syllogism/sine"
)

func TestExamplesOfChoose(t *testing.T) {
	l := asked("a = a", "p(a)", "p(b) & q", "q & r", "s")
	chooses(t, l, 10, 0, 0, 4)
	chooses(t, l, 20, 0, 0, 1, 2, 4)
	chooses(t, l, 20, 1, 0, 4)
	chooses(t, l, 0, 7, 0, 1, 2, 3, 4)
	refuses(t, l, 5, 0)
}

// TestToleranceAndDepth: which of them may be, of any entries, those of which all are chosen whatever is told among them.
func TestToleranceAndDepth(t *testing.T) {
	lists := [][]api.Entry{nil, {}, axioms("p"), asked("p"), asked("p", "p", "q"), {{}}}
	tolerances := map[int]bool{math.MinInt: false, -1000: false, -10: false, -1: false, 0: true, 1: false, 2: false, 5: false, 9: false, 10: true, 11: true, 999: true, 1000: true, 1001: false, math.MaxInt: false}
	depths := map[int]bool{math.MinInt: false, -2: false, -1: false, 0: true, 1: true, 2: true, 2000: true, math.MaxInt: true}
	for _, l := range lists {
		for tolerance, one := range tolerances {
			for depth, other := range depths {
				if one && other {
					chosen(t, l, tolerance, depth)
				} else {
					refuses(t, l, tolerance, depth)
				}
			}
		}
	}
}

// TestAllAreChosen: with tolerance 0, and without a goal, in whatever depth.
func TestAllAreChosen(t *testing.T) {
	without := axioms("p(a)", "q", "$true", "p(b) & r")
	with := append(asked("p(a)", "q", "r", "$true"), entry("negated_conjecture", "s"))
	for _, depth := range []int{0, 1, 2, 3, 1000, math.MaxInt} {
		for _, tolerance := range []int{0, 10, 11, 20, 1000} {
			chooses(t, nil, tolerance, depth)
			chooses(t, []api.Entry{}, tolerance, depth)
			chooses(t, without, tolerance, depth, 0, 1, 2, 3)
			chooses(t, without[:1], tolerance, depth, 0)
		}
		chooses(t, with, 0, depth, 0, 1, 2, 3, 4)
		chooses(t, with, 10, depth, 2, 3, 4)
	}
}

// TestGoals: of both roles, each chosen whatever its symbols, and no other entry is one.
func TestGoals(t *testing.T) {
	for _, role := range []string{"conjecture", "negated_conjecture"} {
		l := []api.Entry{entry("axiom", "q"), entry(role, "$true"), entry("axiom", "p"), entry(role, "r"), entry("axiom", "r"), entry(role, "r"), entry(role, "p(a)")}
		for _, depth := range []int{0, 1, 2} {
			chooses(t, l, 10, depth, 1, 3, 4, 5, 6)
			chooses(t, l[1:2], 10, depth, 0)
			chooses(t, l[:2], 1000, depth, 1)
		}
	}
	both := []api.Entry{entry("negated_conjecture", "p"), entry("axiom", "p"), entry("axiom", "q"), entry("axiom", "r"), entry("conjecture", "r")}
	chooses(t, both, 10, 0, 0, 1, 3, 4)
	for _, role := range append(axiomRoles(), "", "nonsense", "Conjecture") {
		l := []api.Entry{entry(role, "p"), entry("conjecture", "q"), entry("axiom", "p & q")}
		chooses(t, l, 10, 1, 1, 2)
		chooses(t, l, 10, 0, 0, 1, 2)
		chooses(t, []api.Entry{entry(role, "p"), entry("axiom", "q")}, 10, 1, 0, 1)
	}
}

// TestBareAxioms: those without any symbol are chosen in the first round, whatever the goals' symbols.
func TestBareAxioms(t *testing.T) {
	l := asked("p", "$true", "! [X,Y] : X = Y", "q", "~ $false", "p")
	for _, tolerance := range []int{10, 1000} {
		for _, depth := range []int{0, 1, 2} {
			chooses(t, l, tolerance, depth, 0, 1, 3, 4, 5)
			chooses(t, asked("$false", "$true", "q", "! [X] : X = X"), tolerance, depth, 0, 2, 3)
		}
	}
}

// chain is axioms of which each has the symbol that comes first in the next one, so that each is chosen a round later.
func chain(n int) []string {
	var l []string
	for i := range n {
		l = append(l, fmt.Sprintf("p%d & p%d", i, i+1))
	}
	return l
}

// TestRounds: as many as are told, just as many as there are, one fewer, one more.
func TestRounds(t *testing.T) {
	for n := range 8 {
		texts := chain(n)
		for _, tolerance := range []int{20, 1000} {
			chooses(t, asked("p0", texts...), tolerance, 0, upTo(n+1)...)
			for depth := 1; depth < n+3; depth++ {
				chooses(t, asked("p0", texts...), tolerance, depth, append(upTo(min(depth, n)), n)...)
			}
		}
	}
	// In the other direction, and with goals at both ends.
	l := append([]api.Entry{entry("conjecture", "p6")}, axioms(chain(6)...)...)
	chooses(t, l, 20, 1, 0, 6)
	chooses(t, l, 20, 2, 0, 5, 6)
	chooses(t, l, 20, 0, 0, 1, 2, 3, 4, 5, 6)
	l = append(l, entry("negated_conjecture", "p0"))
	chooses(t, l, 20, 1, 0, 1, 6, 7)
	chooses(t, l, 20, 2, 0, 1, 2, 5, 6, 7)
	chooses(t, l, 20, 3, 0, 1, 2, 3, 4, 5, 6, 7)
}

// TestRoundsOfOne: what a round chooses brings its symbols behind the round, not within it, wherever it stands.
func TestRoundsOfOne(t *testing.T) {
	l := []api.Entry{entry("axiom", "b & c"), entry("axiom", "a & b"), entry("axiom", "b & c & d"), entry("conjecture", "a")}
	chooses(t, l, 1000, 1, 1, 3)
	chooses(t, l, 1000, 2, 0, 1, 2, 3)
	// A bare axiom alone makes a first round, too; and behind a round that chooses nothing none comes.
	chooses(t, asked("a", "$true", "b"), 1000, 1, 0, 2)
	chooses(t, asked("a", "b"), 1000, 0, 1)
}

// TestJustAsCommon: a symbol that is just tolerance / 10 times as common as the least common one triggers; one that is in one axiom more does not.
func TestJustAsCommon(t *testing.T) {
	for _, x := range []struct{ tolerance, least, most int }{
		{10, 1, 1}, {10, 2, 2}, {10, 7, 7}, {11, 1, 1}, {11, 9, 9}, {11, 10, 11}, {11, 19, 20}, {11, 20, 22}, {14, 5, 7}, {15, 1, 1}, {15, 2, 3}, {15, 3, 4}, {19, 1, 1}, {20, 1, 2},
		{25, 2, 5}, {29, 1, 2}, {30, 1, 3}, {30, 2, 6}, {99, 1, 9}, {100, 1, 10}, {101, 1, 10}, {109, 10, 109}, {999, 1, 99}, {1000, 1, 100}, {1000, 2, 200},
	} {
		for _, more := range []int{0, 1} {
			l := times("q & r", x.least)
			l = append(l, times("q", x.most+more-x.least)...)
			l = append(l, entry("conjecture", "q"))
			symbols, n := sine.Common(l)
			if len(symbols) == 0 || n[0] != x.most+more {
				t.Fatal(x, symbols, n)
			}
			if more == 0 {
				chooses(t, l, x.tolerance, 0, upTo(len(l))...)
				continue
			}
			var want []int
			for i := x.least; i < len(l); i++ {
				want = append(want, i)
			}
			chooses(t, l, x.tolerance, 0, want...)
		}
	}
}

// times is an axiom so often.
func times(text string, n int) []api.Entry {
	var l []api.Entry
	for range n {
		l = append(l, entry("axiom", text))
	}
	return l
}

// TestLeastCommon: each axiom has its own; several may be so, and each of them triggers.
func TestLeastCommon(t *testing.T) {
	l := axioms("a & b & c", "c & d", "d", "a", "b")
	for _, goal := range []string{"a", "b", "c", "a & b", "c & a", "a | (b & c)"} {
		got := chosen(t, append(l, entry("conjecture", goal)), 10, 1)
		if len(got) < 2 || got[0] != 0 {
			t.Error(goal, got)
		}
	}
	chooses(t, append(l, entry("conjecture", "d")), 10, 0, 0, 1, 2, 3, 4, 5)
	chooses(t, append(l, entry("conjecture", "d")), 10, 1, 1, 2, 5)
	// The same symbol is least common here, and not so there.
	l = axioms("a & b", "a & c", "c", "c", "b & d", "b", "b")
	chooses(t, append(l, entry("conjecture", "a")), 10, 1, 0, 1, 7)
	chooses(t, append(l, entry("conjecture", "c")), 10, 1, 2, 3, 7)
	chooses(t, append(l, entry("conjecture", "b")), 10, 1, 5, 6, 7)
	chooses(t, append(l, entry("conjecture", "b")), 20, 1, 0, 5, 6, 7)
	chooses(t, append(l, entry("conjecture", "b")), 40, 1, 0, 4, 5, 6, 7)
}

// TestGoalsMakeNothingCommon: what goals say of a symbol counts nothing, whatever it triggers.
func TestGoalsMakeNothingCommon(t *testing.T) {
	l := []api.Entry{entry("conjecture", "p & q & r"), entry("negated_conjecture", "q"), entry("axiom", "q & s"), entry("axiom", "r & s"), entry("negated_conjecture", "r & q")}
	chooses(t, l, 10, 0, 0, 1, 2, 3, 4)
	hasCommon(t, "p/0! 0, q/0! 1, r/0! 1, s/0! 2", l...)
}

// TestOccurrencesCountOnce: however often an axiom has a symbol, it is one axiom.
func TestOccurrencesCountOnce(t *testing.T) {
	chooses(t, asked("p", "p & p & p & q", "q"), 10, 1, 0, 2)
	chooses(t, asked("q", "p & p & p & q", "q"), 10, 0, 1, 2)
	chooses(t, asked("q", "p & p & p & q", "q & q & q & q"), 20, 0, 0, 1, 2)
}

// TestSameSymbols: axioms with the same symbols are chosen together.
func TestSameSymbols(t *testing.T) {
	l := asked("p", "p & q", "q", "q => ~ p", "r", "(p & q) | ~ q")
	chooses(t, l, 10, 1, 0, 2, 4, 5)
	chooses(t, l, 10, 0, 0, 1, 2, 4, 5)
	l[5] = entry("conjecture", "q")
	chooses(t, l, 13, 0, 1, 5)
	chooses(t, l, 14, 0, 0, 1, 2, 4, 5)
}

// TestSymbolsThatOnlyLookAlike: another arity or kind is another symbol.
func TestSymbolsThatOnlyLookAlike(t *testing.T) {
	l := axioms("p", "p(a)", "p(a,a)", "p = b", "p(b) = b", "'P'")
	for goal, want := range map[string][]int{"p": {0, 6}, "! [X] : p(X)": {1, 6}, "! [X] : p(X,X)": {2, 6}, "! [X] : p = X": {3, 6}, "! [X] : p(X) = X": {4, 6}, "'P'": {5, 6}, "'P' = 'P'": {6}, "! [X] : p(X,X,X)": {6}} {
		chooses(t, append(l, entry("conjecture", goal)), 10, 0, want...)
	}
}
