package sine_test

import (
	"fmt"
	"math/rand"
	"slices"
	"strings"
	"testing"

	"syllogism/api"
	"syllogism/sine"
)

// The second way goes by the chapter's words alone: it asks of each axiom in each round, and counts anew whenever it asks how common a symbol is.

// plainSymbols tells those of a formula, as often as they stand there.
func plainSymbols(f api.Form) []string {
	var l []string
	var walk func(x api.Expr, pred bool)
	walk = func(x api.Expr, pred bool) {
		if !x.Var {
			l = append(l, symbol(api.Sym{Name: x.Name, Arity: len(x.Args), Pred: pred}))
		}
		for _, y := range x.Args {
			walk(y, false)
		}
	}
	for _, x := range f.Terms {
		walk(x, f.Op == api.FormAtom)
	}
	for _, g := range f.Args {
		l = append(l, plainSymbols(g)...)
	}
	return l
}

type plain struct {
	symbols [][]string
	goal    []bool
}

func plainLook(l []api.Entry) plain {
	var p plain
	for _, x := range l {
		p.symbols = append(p.symbols, plainSymbols(x.Form))
		p.goal = append(p.goal, strings.HasSuffix(x.Role, "conjecture"))
	}
	return p
}

func (p plain) count(s string) int {
	n := 0
	for i, l := range p.symbols {
		if !p.goal[i] && slices.Contains(l, s) {
			n++
		}
	}
	return n
}

func (p plain) triggers(s string, i, tolerance int) bool {
	return !p.goal[i] && slices.Contains(p.symbols[i], s) && !slices.ContainsFunc(p.symbols[i], func(other string) bool { return 10*p.count(s) > tolerance*p.count(other) })
}

// stands: is the symbol in one of these entries?
func (p plain) stands(s string, places []int) bool {
	return slices.ContainsFunc(places, func(i int) bool { return slices.Contains(p.symbols[i], s) })
}

// behind is what is chosen behind so many rounds, the goals with it.
func (p plain) behind(rounds, tolerance int) []int {
	var l []int
	if rounds == 0 {
		for i, goal := range p.goal {
			if goal {
				l = append(l, i)
			}
		}
		return l
	}
	before := p.behind(rounds-1, tolerance)
	for i := range p.symbols {
		if slices.Contains(before, i) || !p.goal[i] && len(p.symbols[i]) == 0 || slices.ContainsFunc(p.symbols[i], func(s string) bool { return p.stands(s, before) && p.triggers(s, i, tolerance) }) {
			l = append(l, i)
		}
	}
	return l
}

func plainChoose(l []api.Entry, tolerance, depth int) []int {
	p := plainLook(l)
	if tolerance == 0 || !slices.Contains(p.goal, true) {
		return upTo(len(l))
	}
	if depth == 0 {
		depth = len(l)
	}
	return p.behind(depth, tolerance)
}

func plainCommon(l []api.Entry) string {
	p := plainLook(l)
	var out []string
	for _, s := range slices.Concat(p.symbols...) {
		if x := fmt.Sprint(s, " ", p.count(s)); !slices.Contains(out, x) {
			out = append(out, x)
		}
	}
	return strings.Join(out, ", ")
}

// TestAllSmallProblems: both ways tell the same of all lists of up to four entries out of some.
func TestAllSmallProblems(t *testing.T) {
	var menu []api.Entry
	for _, text := range []string{"$true", "p", "p & q", "q | r", "p(r) & p", "! [X] : p(X)"} {
		menu = append(menu, entry("axiom", text))
	}
	menu = append(menu, entry("conjecture", "p"), entry("negated_conjecture", "r & ! [X] : p(X)"), entry("conjecture", "$false"))
	kinds := make(map[string]int)
	var grow func(l []api.Entry)
	grow = func(l []api.Entry) {
		hasCommon(t, plainCommon(l), l...)
		for _, tolerance := range []int{0, 10, 15, 20} {
			for depth := range 4 {
				want := plainChoose(l, tolerance, depth)
				chooses(t, l, tolerance, depth, want...)
				kinds[fmt.Sprint(len(want), " of ", len(l))]++
			}
		}
		for _, x := range menu {
			if len(l) < 4 {
				grow(append(slices.Clip(l), x))
			}
		}
	}
	grow(nil)
	for n := range 5 {
		for k := range n + 1 {
			if times := kinds[fmt.Sprint(k, " of ", n)]; times < 1 && k > 0 {
				t.Error(k, "of", n, "never came")
			}
		}
	}
}

type thrower struct{ *rand.Rand }

// term has a symbol of those with small numbers more often.
func (r thrower) term(depth int) api.Expr {
	n := r.Intn(1 + r.Intn(12))
	x := api.Expr{Name: fmt.Sprint("f", n)}
	switch {
	case r.Intn(3) == 0:
		return api.Expr{Var: true, Name: "X"}
	case depth > 1:
		for range r.Intn(3) {
			x.Args = append(x.Args, r.term(depth-1))
		}
	}
	return x
}

func (r thrower) form(depth int) api.Form {
	n := r.Intn(1 + r.Intn(30))
	switch {
	case r.Intn(12) == 0:
		return api.Form{Op: api.FormTrue}
	case r.Intn(6) == 0:
		return api.Form{Op: api.FormEq, Terms: []api.Expr{r.term(depth), r.term(depth)}}
	case depth < 2 || r.Intn(3) > 0:
		f := api.Form{Op: api.FormAtom, Terms: []api.Expr{{Name: fmt.Sprint("p", n)}}}
		if r.Intn(4) == 0 {
			f.Terms[0].Args = []api.Expr{r.term(depth)}
		}
		return f
	case r.Intn(3) == 0:
		return api.Form{Op: api.FormSome, Vars: []string{"X"}, Args: []api.Form{r.form(depth - 1)}}
	}
	return api.Form{Op: api.FormAnd, Args: []api.Form{r.form(depth - 1), r.form(depth - 1)}}
}

// entries are up to so many, few of them goals.
func (r thrower) entries(most int) []api.Entry {
	var l []api.Entry
	for range r.Intn(most + 1) {
		x := api.Entry{Name: "n", Role: axiomRoles()[r.Intn(8)], Form: r.form(3)}
		switch r.Intn(20) {
		case 0:
			x.Role = "conjecture"
		case 1:
			x.Role = "negated_conjecture"
		case 2:
			x.Form = api.Form{Op: api.FormFalse}
		}
		l = append(l, x)
	}
	return l
}

func (r thrower) tolerance() int { return 10 + r.Intn(1+r.Intn(40)) }

// TestThrownProblems: so it is of larger ones.
func TestThrownProblems(t *testing.T) {
	r := thrower{rand.New(rand.NewSource(171))}
	some, later := 0, 0
	for range 1000 {
		l := r.entries(40)
		hasCommon(t, plainCommon(l), l...)
		tolerance := r.tolerance()
		last := plainChoose(l, tolerance, 0)
		chooses(t, l, tolerance, 0, last...)
		for depth := 1; depth < 5; depth++ {
			want := plainChoose(l, tolerance, depth)
			chooses(t, l, tolerance, depth, want...)
			if len(want) < len(last) {
				later++
			}
		}
		if len(last) < len(l) {
			some++
		}
	}
	if some < 300 || later < 300 {
		t.Error(some, later)
	}
}

// TestAnyEntriesThrown: those that may not be, too: without a name, with roles and formulas that there are not.
func TestAnyEntriesThrown(t *testing.T) {
	r := thrower{rand.New(rand.NewSource(172))}
	for range 1000 {
		l := r.entries(12)
		for i := range l {
			x := &l[i]
			switch r.Intn(6) {
			case 0:
				x.Name, x.Cnf = "", true
			case 1:
				x.Role = "role"
			case 2:
				x.Form.Op = api.FormOp(r.Intn(20) - 3)
			case 3:
				x.Form.Terms = append(x.Form.Terms, r.term(2))
			case 4:
				x.Form.Args = append(x.Form.Args, r.form(2))
			}
		}
		hasCommon(t, plainCommon(l), l...)
		tolerance, depth := r.tolerance(), r.Intn(4)
		chooses(t, l, tolerance, depth, plainChoose(l, tolerance, depth)...)
		refuses(t, l, r.Intn(9)+1, depth)
		refuses(t, l, tolerance, -1-depth)
	}
}

// TestSymbolsOfEntries: those that Common tells are all that stand in the entries, each once.
func TestSymbolsOfEntries(t *testing.T) {
	r := thrower{rand.New(rand.NewSource(173))}
	for range 500 {
		l := r.entries(30)
		symbols, _ := sine.Common(l)
		there := make(map[string]int)
		for _, s := range symbols {
			there[symbol(s)]++
		}
		for _, x := range l {
			for _, s := range plainSymbols(x.Form) {
				if there[s] != 1 {
					t.Error(s, there[s])
				}
			}
		}
	}
}
