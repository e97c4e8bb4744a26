package clause_test

import (
	"math/rand"
	"slices"
	"testing"

	"syllogism/api"
	"syllogism/clause"
)

// table is what is told of all pairs.
func table(l []api.Clause, call func(c, d api.Clause) bool) [][]bool {
	out := make([][]bool, len(l))
	for i, c := range l {
		for _, d := range l {
			out[i] = append(out[i], call(c, d))
		}
	}
	return out
}

// parted wants of all pairs and threes that what is told parts the clauses: each is with itself, the other way round it is the same, what is with what is with one is with it. It wants some to be together, and some apart.
func parted(t *testing.T, l []api.Clause, call func(c, d api.Clause) bool) {
	t.Helper()
	with := table(l, call)
	together := 0
	for i := range l {
		if !with[i][i] {
			t.Error(show(l[i]), "is not with itself")
		}
		for j := range l {
			if with[i][j] != with[j][i] {
				t.Error(show(l[i]), show(l[j]), with[i][j], with[j][i])
			}
			if !with[i][j] {
				continue
			}
			together++
			for k := range l {
				if with[j][k] && !with[i][k] {
					t.Fatal(show(l[i]), show(l[j]), show(l[k]))
				}
			}
		}
	}
	if together <= len(l) || together == len(l)*len(l) {
		t.Error(together, "of", len(l))
	}
}

// lawClauses are small ones, of none to three literals.
func lawClauses() []api.Clause {
	l := smallLits()
	out := smallClauses(l)
	for i, one := range l {
		for j := range 3 {
			two, three := l[(i+j+1)%len(l)], l[(i*3+j)%len(l)]
			out = append(out, lits(one, two, three), lits(three, one, two), lits(turn(two), three, one))
		}
	}
	return out
}

func TestSameParts(t *testing.T) {
	l := lawClauses()
	parted(t, append(l[:200:200], lawClauses()[100:300]...), clause.Same)
}

func TestVariantParts(t *testing.T) { parted(t, lawClauses(), clause.Variant) }

func TestAlikeParts(t *testing.T) { parted(t, lawClauses(), clause.Alike) }

// TestAlikePartsFive: of five equations between variables, which fit each other most, so that the search is as long as it can be.
func TestAlikePartsFive(t *testing.T) {
	r := rand.New(rand.NewSource(14))
	var l []api.Clause
	for range 60 {
		var c api.Clause
		for range 5 {
			c = append(c, eq(x(r.Intn(4)), x(r.Intn(4))))
		}
		l = append(l, c)
		if r.Intn(2) == 0 {
			l = append(l, shaken(r, renamed(r.Perm(4), c)))
		}
	}
	parted(t, l, clause.Alike)
	for i, c := range l {
		for _, d := range l[i:] {
			heldAlike(t, c, d)
		}
	}
}

// TestWhatFollowsFromWhat: the same are variants, variants are alike; what is alike, and may be, has one size, and as many variables and literals.
func TestWhatFollowsFromWhat(t *testing.T) {
	l := slices.DeleteFunc(lawClauses(), func(c api.Clause) bool { return clause.Check(sig(), c) != api.OK })
	for _, c := range l {
		for _, d := range l {
			same, variant, alike := clause.Same(c, d), clause.Variant(c, d), clause.Alike(c, d)
			if same && !variant || variant && !alike {
				t.Error(show(c), show(d), same, variant, alike)
			}
			if alike && (len(c) != len(d) || clause.Size(c) != clause.Size(d) || len(clause.Vars(c)) != len(clause.Vars(d))) {
				t.Error(show(c), show(d))
			}
		}
	}
}

// TestTextTellsApart: of clauses that may be the texts are the same just if they are.
func TestTextTellsApart(t *testing.T) {
	var l []api.Clause
	var texts []string
	for _, c := range lawClauses() {
		text, e := clause.Text(sig(), c)
		if may := clause.Check(sig(), c); may != e {
			t.Error(show(c), may, e)
		}
		if e == api.OK {
			l, texts = append(l, c), append(texts, text)
		}
	}
	if len(l) < 400 {
		t.Fatal(len(l))
	}
	for i := range l {
		for j := range l {
			if (texts[i] == texts[j]) != clause.Same(l[i], l[j]) {
				t.Error(texts[i], texts[j], show(l[i]), show(l[j]))
			}
		}
	}
}
