package cnf_test

import (
	"math/rand"
	"slices"
	"testing"

	"syllogism/api"
	"syllogism/formula"
	"syllogism/sign"
)

// world is an interpretation of a signature; -1 stands where nothing is settled yet.
type world struct {
	size   int
	tables [][]int
}

// cell is a place in a table.
type cell struct{ symbol, at int }

// worldOf has nothing settled.
func worldOf(size int, syms []api.Sym) world {
	w := world{size: size}
	for _, s := range syms {
		n := 1
		for range s.Arity {
			n *= size
		}
		w.tables = append(w.tables, many(n, -1))
	}
	w.tables[0][0] = 1
	return w
}

// cells are those of the symbols from one number on.
func (w world) cells(from int) []cell {
	var l []cell
	for s := from; s < len(w.tables); s++ {
		for at := range w.tables[s] {
			l = append(l, cell{s, at})
		}
	}
	return l
}

func (w world) at(args []int) int {
	n := 0
	for _, a := range args {
		n = n*w.size + a
	}
	return n
}

// term is a term's value, or -1 and the cell that would have to be settled first.
func (w world) term(x api.Term, values []int) (int, cell) {
	if x.Fun < 0 {
		return values[-1-x.Fun], cell{}
	}
	var args []int
	for _, y := range x.Args {
		a, open := w.term(y, values)
		if a < 0 {
			return -1, open
		}
		args = append(args, a)
	}
	c := cell{x.Fun, w.at(args)}
	return w.tables[c.symbol][c.at], c
}

// clause: 1, 0, or -1 and a cell that would have to be settled to tell.
func (w world) clause(c api.Clause, values []int) (int, cell) {
	told, first := 0, cell{}
	for _, l := range c {
		x, open := w.term(l.L, values)
		y := 1
		if x >= 0 {
			if z, o := w.term(l.R, values); z < 0 {
				x, open = -1, o
			} else {
				y = z
			}
		}
		switch {
		case x < 0 && told == 0:
			told, first = -1, open
		case x >= 0 && (x == y) != l.Neg:
			return 1, cell{}
		}
	}
	return told, first
}

// rows goes over all values of so many variables.
func rows(n, size int, do func(values []int) bool) bool {
	values := make([]int, n)
	for {
		if !do(values) {
			return false
		}
		i := n - 1
		for ; i >= 0 && values[i] == size-1; i-- {
			values[i] = 0
		}
		if i < 0 {
			return true
		}
		values[i]++
	}
}

func variablesOf(c api.Clause) int {
	n := 0
	var visit func(x api.Term)
	visit = func(x api.Term) {
		n = max(n, -x.Fun)
		for _, y := range x.Args {
			visit(y)
		}
	}
	for _, l := range c {
		visit(l.L)
		visit(l.R)
	}
	return n
}

// extends: can what is not settled be settled so that all clauses are true?
func (w world) extends(l []api.Clause, syms []api.Sym) bool {
	var first *cell
	for _, c := range l {
		if !rows(variablesOf(c), w.size, func(values []int) bool {
			told, open := w.clause(c, values)
			if told < 0 && first == nil {
				first = &open
			}
			return told != 0
		}) {
			return false
		}
	}
	if first == nil {
		return true
	}
	place := &w.tables[first.symbol][first.at]
	defer func() { *place = -1 }()
	n := w.size
	if syms[first.symbol].Pred {
		n = 2
	}
	for x := range n {
		*place = x
		if w.extends(l, syms) {
			return true
		}
	}
	return false
}

// reader reads formulas in a world.
type reader struct {
	world
	sig api.Sig
}

func (r reader) value(x api.Expr, pred bool, values map[string]int) int {
	if x.Var {
		return values[x.Name]
	}
	var args []int
	for _, y := range x.Args {
		args = append(args, r.value(y, false, values))
	}
	n, _ := sign.Find(r.sig, api.Sym{Name: x.Name, Arity: len(x.Args), Pred: pred})
	return r.tables[n][r.at(args)]
}

func (r reader) says(f api.Form, values map[string]int) bool {
	part := func(i int) bool { return r.says(f.Args[i], values) }
	switch f.Op {
	case api.FormTrue:
		return true
	case api.FormAtom:
		return r.value(f.Terms[0], true, values) == 1
	case api.FormEq:
		return r.value(f.Terms[0], false, values) == r.value(f.Terms[1], false, values)
	case api.FormNot:
		return !part(0)
	case api.FormAnd:
		return !slices.ContainsFunc(f.Args, func(g api.Form) bool { return !r.says(g, values) })
	case api.FormOr:
		return slices.ContainsFunc(f.Args, func(g api.Form) bool { return r.says(g, values) })
	case api.FormImplies:
		return !part(0) || part(1)
	case api.FormIff:
		return part(0) == part(1)
	case api.FormXor:
		return part(0) != part(1)
	case api.FormAll:
		return r.bound(f.Vars, f.Args[0], values, true)
	case api.FormSome:
		return !r.bound(f.Vars, f.Args[0], values, false)
	}
	return false
}

// bound: does the formula say so for all values of the variables?
func (r reader) bound(vars []string, f api.Form, values map[string]int, so bool) bool {
	return rows(len(vars), r.size, func(row []int) bool {
		inner := map[string]int{}
		for x, n := range values {
			inner[x] = n
		}
		for i, x := range vars {
			inner[x] = row[i]
		}
		return r.says(f, inner) == so
	})
}

// entries: is what all of them say true?
func (r reader) entries(l []api.Entry) bool {
	return !slices.ContainsFunc(l, func(x api.Entry) bool {
		return r.bound(formula.Free(x.Form), x.Form, nil, true) == (x.Role == "conjecture")
	})
}

// oldSymbols is how many of the signature's are the entries' own.
func oldSymbols(l []api.Entry) int {
	seen := map[api.Sym]int{{Name: "$true", Pred: true}: 1}
	for _, x := range l {
		for _, s := range formula.Symbols(x.Form) {
			seen[s]++
		}
	}
	return len(seen)
}

// agree holds P16.3 in interpretations of that size: in all, if they are at most so many, else in so many at hazard.
func agree(t *testing.T, l []api.Entry, size, most int, r *rand.Rand) (yes, no int) {
	t.Helper()
	a := made(l)
	if a.e != api.OK {
		t.Fatalf("%.500s: %v", showEntries(l), a.e)
	}
	old := oldSymbols(l)
	w := worldOf(size, a.sig.Syms)
	cells := worldOf(size, a.sig.Syms[:old]).cells(1)
	settle := func(k int) {
		for _, c := range cells {
			n := size
			if a.sig.Syms[c.symbol].Pred {
				n = 2
			}
			w.tables[c.symbol][c.at] = k % n
			k /= n
		}
	}
	ways := 1
	for _, c := range cells {
		if a.sig.Syms[c.symbol].Pred {
			ways = min(2*ways, 1<<40)
		} else {
			ways = min(size*ways, 1<<40)
		}
	}
	for k := range min(ways, most) {
		if ways > most {
			k = r.Intn(ways)
		}
		settle(k)
		one, two := reader{w, a.sig}.entries(l), w.extends(a.c, a.sig.Syms)
		if one != two {
			t.Fatalf("%.800s: %v, its clauses %v, of %d elements in %v:\n%.2000s", showEntries(l), one, two, size, w.tables[:old], a.texts())
		}
		if one {
			yes++
		} else {
			no++
		}
	}
	return yes, no
}

// P16.3: of the formulas of which the promises' tests speak.
func TestLawOfFormulas(t *testing.T) {
	r := rand.New(rand.NewSource(163))
	yes, no := 0, 0
	for _, text := range []string{
		"! [X] : (p(X) => ? [Y] : q(X,Y))", "! [X,Y] : (q(X,Y) | ? [Z] : q(Y,Z))", "! [X] : ? [Y] : (q(X,Y) & ? [Z] : q(Y,Z))", "! [X] : ? [Y] : ! [Z] : (q(X,Y) | ? [U] : (q(U,Y) & ~ q(X,U)))",
		"~ ! [X] : ? [Y] : q(X,Y)", "! [X] : (p(X) <=> ? [Y] : q(X,Y))", "(? [X] : p(X)) <~> ! [Y] : q(Y,a)", "! [X] : ? [Y] : f(Y) = X", "! [X] : ? [Y] : f(X) != Y", "? [X,Y] : (X != Y & f(X) = Y)", "! [X,Y] : X = Y", "? [X] : ! [Y] : f(X) != Y",
		"(p(a) & p(b) & q(a,b)) | (q(b,a) & q(a,a) & q(b,b))", "! [X] : ((p(X) & p(a) & q(X,a)) | ? [Y] : (q(X,Y) & q(a,a) & q(Y,a)))", "! [X,Y] : ((p(X) & q(X,Y) & q(Y,Y)) | (~ p(Y) & ~ q(Y,X) & X != Y))",
		"(a & (b | (c & d))) | (e & f & g)", "(a & ((b & c & d) | (e & f & ~ g))) | (~ a & h)", "(a <=> b) | (c <=> d) | (e & f & ~ a)", "~ ((a | b | c) & (d | e | f))", "(a <=> (b <~> c)) <=> (d <=> ~ a)",
		"p | $false", "p | $true", "p & $false", "a = b | b = a | a = b", "! [X] : (f(X) = X | p(X))", "$false", "$true",
		"! [X] : ((? [Y] : (q(X,Y) & p(Y) & ! [Z] : q(Z,Y))) | ! [Z] : (p(Z) & ? [U] : (q(Z,U) & q(U,X))))",
	} {
		for _, role := range []string{"axiom", "conjecture", "negated_conjecture"} {
			l := []api.Entry{entry(role, parsed(text))}
			for size := 1; size <= 3; size++ {
				y, n := agree(t, l, size, []int{0, 1024, 512, 60}[size], r)
				yes, no = yes+y, no+n
			}
		}
	}
	for _, text := range []string{
		"cnf(x, axiom, p(X) | q(X,Y)). cnf(y, axiom, ~ p(f(X)) | X = a). fof(z, conjecture, ? [X] : q(X,a)).", "cnf(x, negated_conjecture, f(X) != X | p(X) | $false). fof(y, axiom, ! [X] : ? [Y] : (p(X) <=> ~ p(Y))).",
		"fof(x, axiom, ! [X] : ? [Y] : q(X,Y)). fof(y, axiom, ! [X] : ? [Y] : ~ q(X,Y)). fof(z, conjecture, p(a)).", "cnf(x, axiom, p | q | r). cnf(y, axiom, ~ p | q). cnf(z, axiom, ~ q | r). fof(w, conjecture, p & s).",
	} {
		l := problem(text)
		for size := 1; size <= 3; size++ {
			y, n := agree(t, l, size, 400, r)
			yes, no = yes+y, no+n
		}
	}
	if yes < 4000 || no < 4000 {
		t.Error(yes, no)
	}
}

// TestLawOfSmallFormulas: of all of them, in all interpretations of one and two elements.
func TestLawOfSmallFormulas(t *testing.T) {
	r := rand.New(rand.NewSource(164))
	yes, no := 0, 0
	s := small{}
	for size := 1; size <= 12; size++ {
		for i, f := range s.of(size, "") {
			for elements := 1; elements <= 2; elements++ {
				y, n := agree(t, []api.Entry{entry([]string{"axiom", "conjecture"}[i%2], f)}, elements, 200, r)
				yes, no = yes+y, no+n
			}
		}
	}
	if yes < 15000 || no < 15000 {
		t.Error(yes, no)
	}
}

// TestLawOfThrownEntries: of such as have few variables around one another.
func TestLawOfThrownEntries(t *testing.T) {
	r := thrower{Rand: rand.New(rand.NewSource(165)), equal: 2}
	yes, no, parts, functions := 0, 0, 0, 0
	for held := 0; held < 900; {
		r.flat = r.Intn(2) == 0
		l := r.entries(2)
		a := made(l)
		old := oldSymbols(l)
		if a.e != api.OK || len(a.c) > 40 || slices.ContainsFunc(a.c, func(c api.Clause) bool { return variablesOf(c) > 5 }) || slices.ContainsFunc(l, func(x api.Entry) bool { return nested(x.Form) > 5 }) {
			continue
		}
		if len(a.sig.Syms) == old && r.Intn(4) > 0 || len(a.sig.Syms) > old+12 || slices.ContainsFunc(a.sig.Syms[old:], func(s api.Sym) bool { return s.Arity > 3 }) {
			continue
		}
		for _, s := range a.sig.Syms[old:] {
			if s.Pred {
				parts++
			} else {
				functions++
			}
		}
		y, n := agree(t, l, 1+r.Intn(2), 12, r.Rand)
		yes, no = yes+y, no+n
		held++
	}
	if yes < 1000 || no < 1000 || parts < 300 || functions < 300 {
		t.Error(yes, no, parts, functions)
	}
}

// nested is how many variables are bound around one another at most.
func nested(f api.Form) int {
	n := 0
	for _, g := range f.Args {
		n = max(n, nested(g))
	}
	return n + len(f.Vars)
}

// TestWorldsTellApart: clauses that say too much or too little are found out, so that agree says something.
func TestWorldsTellApart(t *testing.T) {
	sig, c := signature("p1p q2p sk10 sk21"), func(l ...api.Lit) api.Clause { return l }
	x, y := api.Term{Fun: -1}, api.Term{Fun: -2}
	f := parsed("! [X] : ? [Y] : q(X,Y)")
	q := func(l, r api.Term) api.Lit { return api.Lit{L: api.Term{Fun: 2, Args: []api.Term{l, r}}} }
	right := []api.Clause{c(q(x, api.Term{Fun: 4, Args: []api.Term{x}}))}
	for name, l := range map[string][]api.Clause{
		"right": right, "a constant": {c(q(x, api.Term{Fun: 3}))}, "all": {c(q(x, y))}, "none": {}, "turned": {c(q(api.Term{Fun: 4, Args: []api.Term{x}}, x))}, "false": {c()}, "more": append(right, c(api.Lit{L: api.Term{Fun: 1, Args: []api.Term{x}}})),
	} {
		found := 0
		for k := range 64 {
			w := worldOf(2, sig.Syms)
			for i := range 4 {
				w.tables[2][i] = k >> i & 1
			}
			w.tables[1] = []int{k >> 4 & 1, k >> 5}
			if (reader{w, sig}).entries([]api.Entry{axiom(f)}) != w.extends(l, sig.Syms) {
				found++
			}
		}
		if (found == 0) != (name == "right") {
			t.Error(name, found)
		}
	}
}
