package tptp_test

import (
	"fmt"
	"strings"
	"testing"

	"syllogism/api"
	"syllogism/formula"
	"syllogism/token"
	"syllogism/tptp"
)

func roles() []string {
	return strings.Fields("axiom hypothesis definition assumption lemma theorem corollary plain conjecture negated_conjecture")
}

// parsed is the formula of a text without a fault.
func parsed(text string) api.Form {
	f, at, e := formula.Parse(text)
	if e != api.OK {
		panic(fmt.Sprint(text, at, e))
	}
	return f
}

func fof(name, role, text string) api.Entry {
	return api.Entry{Name: name, Role: role, Form: parsed(text)}
}

func cnf(name, role, text string) api.Entry {
	return api.Entry{Cnf: true, Name: name, Role: role, Form: parsed(text)}
}

func file(name, text string) api.File { return api.File{Name: name, Text: text} }

// facts is a text of so many entries, a name and a number each.
func facts(name string, n int) string {
	var b strings.Builder
	for i := range n {
		fmt.Fprintf(&b, "fof(%s%d,plain,p).", name, i)
	}
	return b.String()
}

// many is a list of n times the same.
func many[E any](n int, x E) []E {
	l := make([]E, n)
	for i := range l {
		l[i] = x
	}
	return l
}

func form(op api.FormOp, args ...api.Form) api.Form { return api.Form{Op: op, Args: args} }

// show tells all of a formula; so two are the same just if they are shown so.
func show(f api.Form) string {
	var b strings.Builder
	fmt.Fprintf(&b, "%d%q<", f.Op, f.Vars[:len(f.Vars):len(f.Vars)])
	for _, t := range f.Terms {
		b.WriteString(showTerm(t))
	}
	b.WriteString("|")
	for _, g := range f.Args {
		b.WriteString(show(g))
	}
	return b.String() + ">"
}

func showTerm(t api.Expr) string {
	s := fmt.Sprintf("%v%q(", t.Var, t.Name)
	for _, a := range t.Args {
		s += showTerm(a)
	}
	return s + ")"
}

func showForms(l []api.Form) string {
	var b strings.Builder
	for _, f := range l {
		b.WriteString(show(f) + "\n")
	}
	return b.String()
}

func showEntry(x api.Entry) string {
	return fmt.Sprintf("%v %q %q %s", x.Cnf, x.Name, x.Role, show(x.Form))
}

func showEntries(l []api.Entry) string {
	s := ""
	for _, x := range l {
		s += showEntry(x) + "\n"
	}
	return s
}

// names tells which entries there are.
func names(l []api.Entry) string {
	var out []string
	for _, x := range l {
		out = append(out, x.Name)
	}
	return strings.Join(out, " ")
}

// reads wants Read to tell those entries, and no place.
func reads(t *testing.T, text string, files []api.File, want ...api.Entry) {
	t.Helper()
	l, at, e := tptp.Read(text, files)
	if e != api.OK || at != (api.Spot{}) || showEntries(l) != showEntries(want) {
		t.Errorf("%.300q: at %v %v\n%.2000snot\n%.2000s", text, at, e, showEntries(l), showEntries(want))
	}
}

// readsNames wants Read to tell entries of those names, with blanks between.
func readsNames(t *testing.T, text string, files []api.File, want string) {
	t.Helper()
	l, at, e := tptp.Read(text, files)
	if e != api.OK || at != (api.Spot{}) || names(l) != want {
		t.Errorf("%.300q: %.500q at %v %v, not %.500q", text, names(l), at, e, want)
	}
}

// faulty wants Read to tell a fault at a place, and nothing else. Of the problem's own text file is -1.
func faulty(t *testing.T, text string, files []api.File, file, at int, e api.Errno) {
	t.Helper()
	l, got, told := tptp.Read(text, files)
	if told != e || got != (api.Spot{File: file, At: at}) || l != nil {
		t.Errorf("%.300q: %d entries at %v %v, not {%d %d} %v", text, len(l), got, told, file, at, e)
	}
}

// checks wants an answer of Check, and the same of Text, beside no text.
func checks(t *testing.T, x api.Entry, want api.Errno) {
	t.Helper()
	if e := tptp.Check(x); e != want {
		t.Errorf("%.300s: Check %v, not %v", showEntry(x), e, want)
	}
	if text, e := tptp.Text([]api.Entry{x}); e != want || (text == "") != (want != api.OK) {
		t.Errorf("%.300s: Text %.100q %v, not %v", showEntry(x), text, e, want)
	}
}

// writes wants a text of entries, and the entries of the text.
func writes(t *testing.T, want string, l ...api.Entry) {
	t.Helper()
	if text, e := tptp.Text(l); text != want || e != api.OK {
		t.Errorf("%.300s: %q %v, not %q", showEntries(l), text, e, want)
	}
	reads(t, want, nil, l...)
}

// refused wants no text of entries.
func refused(t *testing.T, want api.Errno, l ...api.Entry) {
	t.Helper()
	if text, e := tptp.Text(l); text != "" || e != want {
		t.Errorf("%.300s: %.100q %v, not %v", showEntries(l), text, e, want)
	}
}

// cut is the tokens of a text without a fault.
func cut(t *testing.T, text string) []api.Token {
	t.Helper()
	l, at, e := token.Cut(text)
	if e != api.OK {
		t.Fatalf("%.300q: %d %v", text, at, e)
	}
	return l
}

// write is a token as it stands in a text.
func write(x api.Token) string {
	if x.Kind == api.TokQuoted {
		return "'" + x.Text + "'"
	}
	return x.Text
}
