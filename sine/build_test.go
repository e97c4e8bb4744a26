package sine_test

import (
	"fmt"
	"slices"
	"strings"
	"testing"

	"syllogism/api"
	"syllogism/formula"
	"syllogism/sine"
)

// parsed is the formula of a text without a fault.
func parsed(text string) api.Form {
	f, at, e := formula.Parse(text)
	if e != api.OK {
		panic(fmt.Sprint(text, at, e))
	}
	return f
}

func entry(role, text string) api.Entry { return api.Entry{Name: "n", Role: role, Form: parsed(text)} }

// axioms are entries of texts.
func axioms(texts ...string) []api.Entry {
	var l []api.Entry
	for _, s := range texts {
		l = append(l, entry("axiom", s))
	}
	return l
}

// asked is a problem: axioms, and a conjecture behind them.
func asked(conjecture string, texts ...string) []api.Entry {
	return append(axioms(texts...), entry("conjecture", conjecture))
}

func axiomRoles() []string {
	return strings.Fields("axiom hypothesis definition assumption lemma theorem corollary plain")
}

// symbol tells one so: its name, its arity, and ! for a predicate.
func symbol(s api.Sym) string {
	return fmt.Sprint(s.Name, "/", s.Arity, map[bool]string{true: "!"}[s.Pred])
}

// common tells all that Common answers.
func common(l []api.Entry) string {
	symbols, n := sine.Common(l)
	if len(symbols) != len(n) {
		return fmt.Sprint("lists of ", len(symbols), " and ", len(n))
	}
	var out []string
	for i, s := range symbols {
		out = append(out, fmt.Sprint(symbol(s), " ", n[i]))
	}
	return strings.Join(out, ", ")
}

func hasCommon(t *testing.T, want string, l ...api.Entry) {
	t.Helper()
	if got := common(l); got != want {
		t.Errorf("%.300s, want %.300s", got, want)
	}
}

// chooses wants an answer without an error.
func chooses(t *testing.T, l []api.Entry, tolerance, depth int, want ...int) {
	t.Helper()
	got, e := sine.Choose(l, tolerance, depth)
	if e != api.OK || !slices.Equal(got, want) {
		t.Errorf("tolerance %d, depth %d: %v %.300s, want %.300s", tolerance, depth, e, fmt.Sprint(got), fmt.Sprint(want))
	}
}

// refuses wants ErrArg, and nothing beside it.
func refuses(t *testing.T, l []api.Entry, tolerance, depth int) {
	t.Helper()
	if got, e := sine.Choose(l, tolerance, depth); e != api.ErrArg || len(got) > 0 {
		t.Errorf("tolerance %d, depth %d: %v %v", tolerance, depth, got, e)
	}
}

// chosen is an answer that has to be without an error.
func chosen(t *testing.T, l []api.Entry, tolerance, depth int) []int {
	t.Helper()
	got, e := sine.Choose(l, tolerance, depth)
	if e != api.OK {
		t.Fatal(tolerance, depth, e)
	}
	return got
}

// upTo is the numbers below n.
func upTo(n int) []int {
	var l []int
	for i := range n {
		l = append(l, i)
	}
	return l
}
