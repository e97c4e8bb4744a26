package tptp_test

import (
	"math/rand"
	"slices"
	"strconv"
	"strings"
	"testing"

	"syllogism/api"
	"syllogism/formula"
	"syllogism/token"
	"syllogism/tptp"
)

// plain is a second way of reading: items by a table of what may follow what, faults as answers.
type plain struct {
	files    []api.File
	stack    []int // the files that are being read
	includes int
}

// next tells, of an item's kind and a state, the states behind the classes of tokens; the last state is that of the item's end.
func next(include bool) []map[string]int {
	if include {
		return []map[string]int{{"include": 1}, {"(": 2}, {"quoted": 3}, {")": 8, ",": 4}, {"[": 5}, {"name": 6}, {",": 5, "]": 7}, {")": 8}, {".": 9}}
	}
	return []map[string]int{{"kind": 1}, {"(": 2}, {"name": 3}, {",": 4}, {"lower": 5}, {",": 6}, {"formula": 7}, {")": 8}, {".": 9}}
}

func classes(x api.Token) []string {
	switch x.Kind {
	case api.TokLower:
		l := []string{"lower", "name"}
		if x.Text == "fof" || x.Text == "cnf" {
			l = append(l, "kind")
		}
		if x.Text == "include" {
			l = append(l, "include")
		}
		return l
	case api.TokNumber:
		return []string{"name"}
	case api.TokQuoted:
		if token.Name(x.Text) {
			return []string{"name", "quoted"}
		}
		return []string{"quoted"}
	case api.TokSign:
		return []string{x.Text}
	}
	return nil
}

// read answers the entries of a text; ahead is how many were read ahead of it and are not left out yet.
func (p *plain) read(text string, file, ahead int) ([]api.Entry, api.Spot, api.Errno) {
	tokens, at, e := token.Cut(text)
	if e != api.OK {
		return nil, api.Spot{File: file, At: at}, e
	}
	var all []api.Entry
	i := 0
	for tokens[i].Kind != api.TokEnd {
		first := tokens[i]
		var parts []api.Token
		var f api.Form
		table := next(first.Kind == api.TokLower && first.Text == "include")
		state := 0
	item:
		for state < 9 {
			if _, ok := table[state]["formula"]; ok {
				role := parts[len(parts)-2].Text
				if !slices.Contains(roles(), role) || first.Text == "cnf" && role == "conjecture" {
					return nil, api.Spot{File: file, At: parts[len(parts)-2].At}, api.ErrRole
				}
				g, to, e := formula.Read(tokens, i)
				if e != api.OK {
					return nil, api.Spot{File: file, At: tokens[to].At}, e
				}
				f, i, state = g, to, 7
				continue
			}
			for _, c := range classes(tokens[i]) {
				if to, ok := table[state][c]; ok {
					parts = append(parts, tokens[i])
					i, state = i+1, to
					continue item
				}
			}
			return nil, api.Spot{File: file, At: tokens[i].At}, api.ErrItem
		}
		var more []api.Entry
		var spot api.Spot
		if first.Text == "include" {
			more, spot, e = p.include(parts, file, ahead+len(all))
		} else {
			x := api.Entry{Cnf: first.Text == "cnf", Name: parts[2].Text, Role: parts[4].Text, Form: f}
			more, spot, e = []api.Entry{x}, api.Spot{File: file, At: first.At}, plainCheck(x)
			if e == api.OK && ahead+len(all) >= 200 {
				e = api.ErrLong
			}
		}
		if e != api.OK {
			return nil, spot, e
		}
		all = append(all, more...)
	}
	return all, api.Spot{}, api.OK
}

func (p *plain) include(parts []api.Token, file, ahead int) ([]api.Entry, api.Spot, api.Errno) {
	p.includes++
	at := -1
	for i := len(p.files) - 1; i >= 0; i-- {
		if p.files[i].Name == parts[2].Text {
			at = i
		}
	}
	spot := api.Spot{File: file, At: parts[2].At}
	switch {
	case p.includes > 200:
		return nil, spot, api.ErrLong
	case at < 0:
		return nil, spot, api.ErrMissing
	case slices.Contains(p.stack, at):
		return nil, spot, api.ErrCycle
	}
	p.stack = append(p.stack, at)
	all, spot, e := p.read(p.files[at].Text, at, ahead)
	p.stack = p.stack[:len(p.stack)-1]
	if e != api.OK || len(parts) == 5 {
		return all, spot, e
	}
	var some []api.Entry
	for _, x := range all {
		if slices.ContainsFunc(parts[5:len(parts)-3], func(n api.Token) bool { return n.Kind != api.TokSign && n.Text == x.Name }) {
			some = append(some, x)
		}
	}
	for _, n := range parts[5 : len(parts)-3] {
		if n.Kind != api.TokSign && !slices.ContainsFunc(all, func(x api.Entry) bool { return x.Name == n.Text }) {
			return nil, api.Spot{File: file, At: n.At}, api.ErrMissing
		}
	}
	return some, api.Spot{}, api.OK
}

// held holds Read against the second way, and answers what is told.
func held(t *testing.T, text string, files []api.File) api.Errno {
	t.Helper()
	p := &plain{files: files}
	all, at, e := p.read(text, -1, 0)
	if e != api.OK {
		faulty(t, text, files, at.File, at.At, e)
	} else {
		reads(t, text, files, all...)
	}
	return e
}

// thrower throws problems together.
type thrower struct{ *rand.Rand }

func (r thrower) of(l ...string) string { return l[r.Intn(len(l))] }

func (r thrower) name() string { return r.of("a", "b", "c", "'A'", "'b'", "1", "fof") }

func (r thrower) entry() string {
	if r.Intn(2) == 0 {
		return "cnf(" + r.name() + "," + r.of("axiom", "plain", "negated_conjecture") + ", " + r.of("p", "p(X) | ~ q", "X = a", "$false", "(q | a != b)", "p(X,f(Y)) | $true | ~ p(Y,X)") + "). "
	}
	return "fof(" + r.name() + ", " + r.of(roles()...) + "," + r.of("p", "! [X] : p(X)", "p & q", "~ ~ p", "(p => q) <=> r", "? [X,Y] : (X = Y ~| p)", "a != b") + ").\n"
}

func (r thrower) include(files int) string {
	name := "'f" + strconv.Itoa(r.Intn(files)) + "'"
	switch r.Intn(4) {
	case 0:
		return "include(" + name + ", [" + r.name() + "])."
	case 1:
		return "include(" + name + ",[" + r.name() + "," + r.name() + "]). "
	}
	return "include(" + name + ").\n"
}

// fault is an item that is read to its end, or nearly so, and is faulty.
func (r thrower) fault() string {
	return r.of("fof(a,axiom,p(X)). ", "cnf(b, axiom, ~ ~ p). ", "cnf(c,plain,p & q). ", "fof(a,axiom,p <=> X = X).", "fof(b, things, p). ", "cnf(c,conjecture,p).", "fof(a,axiom,! [X,X] : p).", "cnf(a,axiom,p | q(a,a,a,a,a,a,a)).", "include('none').", "include('f0',[zz]).", "include('f3',[a,zz,b]).")
}

// text is so many items at most, and seldom a faulty one; those that it includes are of the first so many files.
func (r thrower) text(most, files int) string {
	var b strings.Builder
	for range r.Intn(most + 1) {
		switch n := r.Intn(80); {
		case n < 2:
			b.WriteString(r.fault())
		case files > 0 && n < 20:
			b.WriteString(r.include(files))
		default:
			b.WriteString(r.entry())
		}
	}
	return b.String()
}

// spoil puts a piece into a text, takes one out of it, or puts one for another.
func (r thrower) spoil(text string) string {
	l, _, e := token.Cut(text)
	if e != api.OK || len(l) < 2 {
		return text
	}
	i := r.Intn(len(l) - 1)
	pieces := append(alphabet(), "#", "$", "p(X) & ", "p & ", "Y", "zz", "'none'", "'f3'", "~")
	from, to := l[i].At, l[i].At
	if r.Intn(3) > 0 {
		to += len(write(l[i]))
	}
	put := ""
	if r.Intn(4) > 0 {
		put = r.of(pieces...)
	}
	if r.Intn(8) == 0 {
		return text[:from]
	}
	return text[:from] + " " + put + " " + text[to:]
}

// TestManyProblems: thrown together, most of them with a fault here or there.
func TestManyProblems(t *testing.T) {
	r := thrower{rand.New(rand.NewSource(14))}
	ends := map[api.Errno]int{}
	for i := range 30000 {
		n := r.Intn(5)
		var files []api.File
		for k := range n {
			text := r.text(5, k)
			if i%3 == 0 && r.Intn(3) == 0 {
				text = r.spoil(text)
			}
			if r.Intn(15) == 0 { // of a file that is not read yet, or of itself
				text += r.include(n)
			}
			files = append(files, file("f"+strconv.Itoa(k), text))
		}
		text := r.text(6, n)
		for range i % 3 {
			text = r.spoil(text)
		}
		ends[held(t, text, files)]++
	}
	for _, e := range []api.Errno{api.OK, api.ErrToken, api.ErrForm, api.ErrArg, api.ErrItem, api.ErrRole, api.ErrFree, api.ErrClause, api.ErrMissing, api.ErrCycle} {
		if ends[e] < 100 {
			t.Error(e, ends)
		}
	}
}

// TestManyLargeProblems: around the bounds of entries and of includes.
func TestManyLargeProblems(t *testing.T) {
	r := thrower{rand.New(rand.NewSource(41))}
	ends := map[api.Errno]int{}
	for range 600 {
		files := []api.File{file("f0", facts("a", r.Intn(60))), file("f1", facts("b", r.Intn(120))), file("f2", "include('f0').include('f1')."+facts("c", r.Intn(40))), file("f3", strings.Repeat("include('none').", 1+r.Intn(60))), file("none", "")}
		text := ""
		for range r.Intn(14) {
			text += r.of("include('f0').", "include('f0',[a0]).", "include('f1',[b0,b1]).", "include('f1').", "include('f2',[a0,b7,c1]).", "include('f2',[c0]).", "include('f3').", "include('f3').", "fof(x,plain,p).", "include('f0',[a7]).", "include('f2',[c31,c3]).")
		}
		if r.Intn(3) == 0 {
			text = r.spoil(text)
		}
		if len(text) <= 8000 {
			ends[held(t, text, files)]++
		}
	}
	if ends[api.OK] < 50 || ends[api.ErrLong] < 50 || ends[api.ErrMissing] < 50 {
		t.Error(ends)
	}
}

// TestManyChecks: of entries thrown together.
func TestManyChecks(t *testing.T) {
	r := thrower{rand.New(rand.NewSource(5))}
	ends := map[api.Errno]int{}
	for range 20000 {
		x := api.Entry{Cnf: r.Intn(2) == 0, Name: r.of("a", "A", "1", "a b", ""), Role: r.of(append(roles(), "thing", "")...), Form: r.form(3)}
		want := plainCheck(x)
		ends[want]++
		checks(t, x, want)
		l, ok := plainLiterals(x.Form)
		literals(t, x.Form, l, ok)
		if text, e := tptp.Text([]api.Entry{x}); e == api.OK {
			reads(t, text, nil, x)
		}
	}
	for _, e := range []api.Errno{api.OK, api.ErrArg, api.ErrRole, api.ErrFree, api.ErrClause} {
		if ends[e] < 200 {
			t.Error(e, ends)
		}
	}
}

// form is a formula of that depth at most, which seldom may not be.
func (r thrower) form(depth int) api.Form {
	if r.Intn(100) == 0 {
		return form(api.FormOp(r.Intn(14)))
	}
	if depth == 1 || r.Intn(3) == 0 {
		return parsed(r.of("p", "p(X)", "X = Y", "a = b", "$true", "$false", "q(f(a))", "Y = f(Y)"))
	}
	switch r.Intn(8) {
	case 0:
		return form(api.FormAnd, r.form(depth-1), r.form(depth-1))
	case 1:
		return form(api.FormImplies, r.form(depth-1), r.form(depth-1))
	case 2, 3:
		return form(api.FormNot, r.form(depth-1))
	case 4:
		return api.Form{Op: api.FormAll, Vars: []string{r.of("X", "Y")}, Args: []api.Form{r.form(depth - 1)}}
	}
	l := []api.Form{r.form(depth - 1), r.form(depth - 1), r.form(depth - 1)}
	return form(api.FormOr, l[r.Intn(2):]...)
}
