package nnf_test

import (
	"testing"

	"syllogism/api"
	"syllogism/formula"
)

func TestInsideExamples(t *testing.T) {
	table(t, inside(), map[string]string{
		"~ (a => ? [X] : p(X))": "a & ! [X] : ~ p(X)",
		"a <=> b":               "(~ a | b) & (a | ~ b)",
	})
}

// TestInsideByTheTable: each line, not turned and turned.
func TestInsideByTheTable(t *testing.T) {
	table(t, inside(), map[string]string{
		"$true":                       "$true",
		"~ $true":                     "$false",
		"$false":                      "$false",
		"~ $false":                    "$true",
		"p":                           "p",
		"~ p":                         "~ p",
		"p(X,f(a))":                   "p(X,f(a))",
		"~ p(X,f(a))":                 "~ p(X,f(a))",
		"X = a":                       "X = a",
		"X != a":                      "X != a",
		"~ X != a":                    "X = a",
		"~ ~ p":                       "p",
		"~ ~ ~ p":                     "~ p",
		"~ ~ ~ ~ p":                   "p",
		"~ ~ ~ X = a":                 "X != a",
		"~ ~ $true":                   "$true",
		"~ ~ ~ $true":                 "$false",
		"a & b":                       "a & b",
		"~ (a & b)":                   "~ a | ~ b",
		"a & b & c & d":               "a & b & c & d",
		"~ (a & ~ b & c & ~ ~ d)":     "~ a | b | ~ c | ~ d",
		"a | b":                       "a | b",
		"~ (a | b)":                   "~ a & ~ b",
		"a | b | c":                   "a | b | c",
		"~ (~ a | b | c)":             "a & ~ b & ~ c",
		"a => b":                      "~ a | b",
		"~ (a => b)":                  "a & ~ b",
		"a <= b":                      "~ b | a",
		"~ a => ~ b":                  "a | ~ b",
		"~ (~ a => ~ b)":              "~ a & b",
		"a <=> b":                     "(~ a | b) & (a | ~ b)",
		"~ (a <=> b)":                 "(a | b) & (~ a | ~ b)",
		"~ a <=> b":                   "(a | b) & (~ a | ~ b)",
		"a <=> ~ b":                   "(~ a | ~ b) & (a | b)",
		"~ (~ a <=> ~ b)":             "(~ a | ~ b) & (a | b)",
		"a <~> b":                     "(a | b) & (~ a | ~ b)",
		"~ (a <~> b)":                 "(~ a | b) & (a | ~ b)",
		"~ a <~> b":                   "(~ a | b) & (a | ~ b)",
		"~ (a <~> ~ b)":               "(~ a | ~ b) & (a | b)",
		"! [X,Y] : p(X,Y)":            "! [X,Y] : p(X,Y)",
		"~ ! [X,Y] : p(X,Y)":          "? [X,Y] : ~ p(X,Y)",
		"? [X,Y] : p(X,Y)":            "? [X,Y] : p(X,Y)",
		"~ ? [X,Y] : p(X,Y)":          "! [X,Y] : ~ p(X,Y)",
		"! [X] : ~ ? [Y] : p(X,Y)":    "! [X] : ! [Y] : ~ p(X,Y)",
		"~ ! [X] : ? [Y] : X != Y":    "? [X] : ! [Y] : X = Y",
		"a ~| b":                      "~ a & ~ b",
		"a ~& b":                      "~ a | ~ b",
		"$true <=> $false":            "($false | $false) & ($true | $true)",
		"~ ($true => $false)":         "$true & $true",
		"~ ! [Y,X] : (p(Y) & $false)": "? [Y,X] : (~ p(Y) | $true)",
	})
}

// TestInsideOfParts: what is turned is told by how many Nots there are above, by the left of Implies, and by where it stands in Iff and Xor.
func TestInsideOfParts(t *testing.T) {
	table(t, inside(), map[string]string{
		"a => (b => c)":             "~ a | (~ b | c)",
		"(a => b) => c":             "(a & ~ b) | c",
		"~ ((a => b) => c)":         "(~ a | b) & ~ c",
		"~ (a => (b => c))":         "a & (b & ~ c)",
		"((a => b) => c) => d":      "((~ a | b) & ~ c) | d",
		"~ (a & (b | ~ (c & d)))":   "~ a | (~ b & (c & d))",
		"(a & b) => (c | d)":        "(~ a | ~ b) | (c | d)",
		"(a & b) & (c & d)":         "(a & b) & (c & d)",
		"a | (b | (c & $true))":     "a | (b | (c & $true))",
		"(a <=> b) <=> c":           "(((a | b) & (~ a | ~ b)) | c) & (((~ a | b) & (a | ~ b)) | ~ c)",
		"a <=> (b <=> c)":           "(~ a | ((~ b | c) & (b | ~ c))) & (a | ((b | c) & (~ b | ~ c)))",
		"a <=> (b <~> c)":           "(~ a | ((b | c) & (~ b | ~ c))) & (a | ((~ b | c) & (b | ~ c)))",
		"~ (a <~> (b => c))":        "(~ a | (~ b | c)) & (a | (b & ~ c))",
		"(a => b) <~> c":            "((~ a | b) | c) & ((a & ~ b) | ~ c)",
		"! [X] : (p(X) <=> q)":      "! [X] : ((~ p(X) | q) & (p(X) | ~ q))",
		"(! [X] : p(X)) <=> q":      "((? [X] : ~ p(X)) | q) & ((! [X] : p(X)) | ~ q)",
		"(? [X] : p(X)) => q":       "(! [X] : ~ p(X)) | q",
		"~ (q <=> ? [X,Y] : X = Y)": "(q | ? [X,Y] : X = Y) & (~ q | ! [X,Y] : X != Y)",
		"! [X] : p(Y)":              "! [X] : p(Y)",
		"~ ! [X] : ! [X] : p(X)":    "? [X] : ? [X] : ~ p(X)",
	})
}

// TestInsideIsNotSimple: it takes nothing away, and joins nothing.
func TestInsideIsNotSimple(t *testing.T) {
	table(t, inside(), map[string]string{
		"a & $true":             "a & $true",
		"~ (a & $true)":         "~ a | $false",
		"$false => a":           "$true | a",
		"a & (b & c)":           "a & (b & c)",
		"~ (a & ~ (b | c))":     "~ a | (b | c)",
		"! [X] : ? [Y] : $true": "! [X] : ? [Y] : $true",
		"a | a":                 "a | a",
	})
}

// plus is a formula with so many nodes more, which Inside leaves as they are.
func plus(f api.Form, nodes int) api.Form {
	if nodes == 1 {
		panic("there is no such formula")
	}
	if nodes == 0 {
		return f
	}
	return and(append(many(nodes-1, yes()), f)...)
}

// towers are formulas from which Inside makes far larger ones.
func towers(op api.FormOp, depth int) []api.Form {
	left, right, both := atom("p"), atom("p"), atom("p")
	for range depth {
		left = form(op, left, atom("q"))
		right = form(op, eq(v("X"), of("a")), right)
	}
	for range min(depth, 8) {
		both = form(op, both, not(both))
	}
	return []api.Form{left, right, both, not(left), all("X Y", right), implies(both, right)}
}

// TestInsideAtMaxNodes: what comes out just as large, and one node larger.
func TestInsideAtMaxNodes(t *testing.T) {
	reached := 0
	for _, op := range []api.FormOp{api.FormIff, api.FormXor} {
		for depth := 1; depth < 8; depth++ {
			for _, f := range towers(op, depth) {
				size := outside(f)
				if size > api.MaxNodes-2 || formula.Size(f) > api.MaxNodes {
					continue
				}
				reached++
				g := made(t, inside(), plus(f, api.MaxNodes-size))
				if formula.Size(g) != api.MaxNodes {
					t.Error(formula.Size(g))
				}
				refuses(t, inside(), plus(f, api.MaxNodes-size+1), api.ErrLong)
				refuses(t, inside(), plus(f, api.MaxNodes-size+2), api.ErrLong)
			}
		}
	}
	if reached < 40 {
		t.Error(reached)
	}
}

// outside is how large a formula becomes by P15.2: reckoned by the sizes alone, so that nothing is made that would be too large.
func outside(f api.Form) int {
	n, _ := bothSizes(f)
	return n
}

// bothSizes is how large it becomes not turned, and turned.
func bothSizes(f api.Form) (plain, turned int) {
	const most = 1 << 40
	switch f.Op {
	case api.FormAtom, api.FormEq:
		return formula.Size(f), formula.Size(f) + 1
	case api.FormNot:
		plain, turned = bothSizes(f.Args[0])
		return turned, plain
	case api.FormImplies:
		left, leftTurned := bothSizes(f.Args[0])
		right, rightTurned := bothSizes(f.Args[1])
		return min(most, 1+leftTurned+right), min(most, 1+left+rightTurned)
	}
	plain, turned = 1+len(f.Vars), 1+len(f.Vars)
	for _, g := range f.Args {
		n, m := bothSizes(g)
		plain, turned = min(most, plain+n), min(most, turned+m)
	}
	if f.Op == api.FormIff || f.Op == api.FormXor {
		n := min(most, 1+plain+turned)
		return n, n
	}
	return plain, turned
}

// TestInsideOneNodeLarger: by a Not, by a variable, by a symbol, by what Iff and Xor have twice.
func TestInsideOneNodeLarger(t *testing.T) {
	p := atom("p")
	for f, size := range map[*api.Form]int{
		{Op: api.FormImplies, Args: []api.Form{p, and(many(1995, yes())...)}}:                                          2000,
		{Op: api.FormImplies, Args: []api.Form{p, and(many(1996, yes())...)}}:                                          2001,
		{Op: api.FormNot, Args: []api.Form{and(append(many(665, p), yes())...)}}:                                       1997,
		{Op: api.FormNot, Args: []api.Form{and(many(666, p)...)}}:                                                      1999,
		{Op: api.FormNot, Args: []api.Form{or(append(many(666, p), no())...)}}:                                         2000,
		{Op: api.FormNot, Args: []api.Form{or(append(many(666, p), eq(v("X"), v("X")))...)}}:                           2003,
		{Op: api.FormNot, Args: []api.Form{or(append(many(665, p), atom("p", v("X")))...)}}:                            2000,
		{Op: api.FormNot, Args: []api.Form{or(append(many(665, p), eq(v("X"), of("a")))...)}}:                          2000,
		{Op: api.FormNot, Args: []api.Form{or(append(many(665, p), atom("p", v("X"), v("X")))...)}}:                    2001,
		{Op: api.FormNot, Args: []api.Form{or(append(many(665, p), eq(v("X"), of("f", of("a"))))...)}}:                 2001,
		{Op: api.FormNot, Args: []api.Form{or(append(many(664, p), all("X Y", p))...)}}:                                1999,
		{Op: api.FormNot, Args: []api.Form{or(append(many(664, p), some("X Y Z", p))...)}}:                             2000,
		{Op: api.FormNot, Args: []api.Form{or(append(many(664, p), some("X Y Z A", p))...)}}:                           2001,
		{Op: api.FormIff, Args: []api.Form{and(many(497, yes())...), and(many(499, yes())...)}}:                        3 + 2*498 + 2*500,
		{Op: api.FormIff, Args: []api.Form{and(many(498, yes())...), atom("p", many(5, nest(27, v("X")))...)}}:         3 + 2*499 + 2*137 + 1,
		{Op: api.FormXor, Args: []api.Form{and(many(497, yes())...), or(append(many(497, no()), all("X", p))...)}}:     3 + 2*498 + 2*502 + 1,
		{Op: api.FormXor, Args: []api.Form{and(many(497, yes())...), or(append(many(493, no()), some("X", p))...)}}:    3 + 2*498 + 2*498 + 1,
		{Op: api.FormXor, Args: []api.Form{and(many(497, yes())...), or(append(many(494, no()), some("X", p))...)}}:    3 + 2*498 + 2*499 + 1,
		{Op: api.FormXor, Args: []api.Form{and(many(497, yes())...), or(append(many(494, no()), all("X", yes()))...)}}: 3 + 2*498 + 2*498,
	} {
		if got := outside(*f); got != size {
			t.Errorf("%.300s: %d, not %d", show(*f), got, size)
		}
		if size > api.MaxNodes {
			refuses(t, inside(), *f, api.ErrLong)
			continue
		}
		if got := formula.Size(made(t, inside(), *f)); got != size {
			t.Errorf("%.300s: %d, not %d", show(*f), got, size)
		}
	}
}

// TestInsideFarTooLarge: what would be larger than any memory is told soon.
func TestInsideFarTooLarge(t *testing.T) {
	soon(t, func() {
		for _, op := range []api.FormOp{api.FormIff, api.FormXor} {
			for _, depth := range []int{8, 9, 12, 50, 180} {
				for _, f := range towers(op, depth) {
					if outside(f) > api.MaxNodes {
						refuses(t, inside(), f, api.ErrLong)
						refuses(t, inside(), not(not(f)), api.ErrLong)
						refuses(t, inside(), and(yes(), f, yes()), api.ErrLong)
					} else if depth > 8 {
						t.Error(depth, show(f))
					}
				}
			}
		}
		f := iff(atom("p"), atom("q"))
		for range 60 {
			f = iff(not(not(f)), atom("p"))
		}
		refuses(t, inside(), f, api.ErrLong)
		refuses(t, inside(), and(append(many(1500, yes()), f)...), api.ErrLong)
	})
}

// TestInsideDeep: what comes out may be deeper than what may be here, and is told all the same.
func TestInsideDeep(t *testing.T) {
	p := atom("p")
	f, want := implies(p, p), or(not(p), p)
	for range 198 {
		f, want = all("X", f), all("X", want)
	}
	becomes(t, inside(), f, want)
	for range 3 {
		f, want = f.Args[0], want.Args[0]
	}
	f, want = iff(f, no()), and(or(dual(want), no()), or(want, yes()))
	becomes(t, inside(), f, want)
}

// dual is a formula without Implies, Iff and Xor turned.
func dual(f api.Form) api.Form {
	args := []api.Form{}
	for _, g := range f.Args {
		args = append(args, dual(g))
	}
	switch f.Op {
	case api.FormTrue:
		return no()
	case api.FormFalse:
		return yes()
	case api.FormNot:
		return f.Args[0]
	case api.FormAnd, api.FormAll:
		return api.Form{Op: f.Op + 1, Vars: f.Vars, Args: args}
	case api.FormOr, api.FormSome:
		return api.Form{Op: f.Op - 1, Vars: f.Vars, Args: args}
	}
	return not(f)
}
