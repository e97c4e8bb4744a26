package nnf_test

import (
	"strings"
	"testing"

	"syllogism/api"
)

func TestSimpleExamples(t *testing.T) {
	table(t, simple(), map[string]string{
		"a & $true & (b & c)": "a & b & c",
		"! [X] : p":           "p",
		"a => $false":         "~ a",
	})
}

func TestSimpleOfNot(t *testing.T) {
	table(t, simple(), map[string]string{
		"~ $true":                     "$false",
		"~ $false":                    "$true",
		"~ ~ a":                       "a",
		"~ a":                         "~ a",
		"a != b":                      "a != b",
		"~ a != b":                    "a = b",
		"~ ~ ~ a":                     "~ a",
		"~ ~ ~ ~ a":                   "a",
		"~ ~ ~ ~ ~ ~ ~ $true":         "$false",
		"~ ~ $false":                  "$false",
		"~ (a & $true)":               "~ a",
		"~ (~ a & $true)":             "a",
		"~ (~ ~ a & $true)":           "~ a",
		"~ ($true => ~ a)":            "a",
		"~ (a => $false)":             "a",
		"~ ! [X] : ~ p(a)":            "p(a)",
		"~ ! [X] : ~ p(X)":            "~ ! [X] : ~ p(X)",
		"~ (a & b)":                   "~ (a & b)",
		"~ (a & $false)":              "$true",
		"~ ? [X] : ~ ! [Y] : ~ p":     "~ p",
		"~ ~ (a & ~ ~ (b & ~ ~ c))":   "a & b & c",
		"~ (~ (a | b) & ~ ~ $true)":   "a | b",
		"(~ (~ (a | b) & $true)) | c": "a | b | c",
	})
}

func TestSimpleOfAndAndOr(t *testing.T) {
	for _, turned := range []bool{false, true} {
		for text, want := range map[string]string{
			"a & b":                               "a & b",
			"a & a":                               "a & a",
			"a & ~ a":                             "a & ~ a",
			"a & $true":                           "a",
			"$true & a":                           "a",
			"$true & $true":                       "$true",
			"$true & $true & $true":               "$true",
			"a & $false":                          "$false",
			"$false & a & $true":                  "$false",
			"$true & $false":                      "$false",
			"$false & $false":                     "$false",
			"a & $true & b & $true & c":           "a & b & c",
			"$true & a & b":                       "a & b",
			"a & b & $true":                       "a & b",
			"a & b & $false & c":                  "$false",
			"(a & b) & c":                         "a & b & c",
			"a & (b & c)":                         "a & b & c",
			"a & (b & c) & d":                     "a & b & c & d",
			"(a & b) & (c & d)":                   "a & b & c & d",
			"a & (b & (c & (d & e)))":             "a & b & c & d & e",
			"(((a & b) & c) & d) & e":             "a & b & c & d & e",
			"a & (b & (c & $true)) & ($true & d)": "a & b & c & d",
			"a & (b & (c & $false))":              "$false",
			"(a & $true) & ($true & $true)":       "a",
			"($true & $true) & ($true & ($true & a))": "a",
			"a & (b | c)":                         "a & (b | c)",
			"a & (b | (c & (d & e)))":             "a & (b | (c & d & e))",
			"a & (b | (c | (d & e)))":             "a & (b | c | (d & e))",
			"a & ((b & c) | $false)":              "a & b & c",
			"a & ($false | (b & c) | $false) & d": "a & b & c & d",
			"a & ((b & c) | $true)":               "a",
			"a & (($true & $true) | b)":           "a",
			"a & ($false | $false)":               "$false",
			"a & ~ ~ (b & c)":                     "a & b & c",
			"a & ~ (b & c)":                       "a & ~ (b & c)",
			"a & ! [X] : (b & c)":                 "a & b & c",
			"a & ! [X] : (p(X) & c)":              "a & ! [X] : (p(X) & c)",
			"a & ! [X] : (p(X) & $true)":          "a & ! [X] : p(X)",
			"p(X) & (X = Y & Y != Z)":             "p(X) & X = Y & Y != Z",
		} {
			if turned {
				text, want = mirror(text), mirror(want)
			}
			makes(t, simple(), text, want)
		}
	}
	table(t, simple(), map[string]string{"a | $false": "a", "a | $true": "$true", "$false | $false": "$false", "a | (b | $false) | (c & $false)": "a | b"})
	table(t, simple(), map[string]string{"a & ($true => (b & c))": "a & b & c", "a & (b <=> $true)": "a & b", "a & ((b & c) <~> $false)": "a & b & c"})
}

// mirror is a text with And for Or and True for False; what Implies, Iff and Xor say of True does not turn with it, so no such text is handed in.
func mirror(text string) string {
	return strings.NewReplacer("&", "|", "|", "&", "$true", "$false", "$false", "$true").Replace(text)
}

// TestSimpleOfLongRows: of all lengths, with what goes at each place.
func TestSimpleOfLongRows(t *testing.T) {
	for n := 2; n < 12; n++ {
		l := many(n, atom("a"))
		for i := range l {
			l[i] = atom("a" + string(rune('a'+i)))
		}
		becomes(t, simple(), and(l...), and(l...))
		becomes(t, simple(), or(l...), or(l...))
		becomes(t, simple(), and(or(l...), not(and(l...))), and(or(l...), not(and(l...))))
		for i := range n + 1 {
			with := func(f ...api.Form) []api.Form { return append(append(append([]api.Form{}, l[:i]...), f...), l[i:]...) }
			becomes(t, simple(), and(with(yes())...), and(l...))
			becomes(t, simple(), or(with(no())...), or(l...))
			becomes(t, simple(), and(with(no())...), no())
			becomes(t, simple(), or(with(yes())...), yes())
			becomes(t, simple(), and(with(yes(), no(), yes())...), no())
			becomes(t, simple(), or(with(no(), yes(), no())...), yes())
			becomes(t, simple(), and(with(and(atom("b"), atom("c")))...), and(with(atom("b"), atom("c"))...))
			becomes(t, simple(), or(with(or(atom("b"), atom("c")))...), or(with(atom("b"), atom("c"))...))
			becomes(t, simple(), and(with(or(atom("b"), atom("c")))...), and(with(or(atom("b"), atom("c")))...))
			becomes(t, simple(), and(many(n, yes())...), yes())
			becomes(t, simple(), or(many(n, no())...), no())
			only := many(n+1, yes())
			only[i] = atom("b")
			becomes(t, simple(), and(only...), atom("b"))
			only = many(n+1, no())
			only[i] = and(atom("b"), atom("c"))
			becomes(t, simple(), or(only...), and(atom("b"), atom("c")))
			becomes(t, simple(), and(atom("a"), or(only...), yes()), and(atom("a"), atom("b"), atom("c")))
		}
	}
}

func TestSimpleOfImplies(t *testing.T) {
	table(t, simple(), map[string]string{
		"a => b":                      "a => b",
		"a => a":                      "a => a",
		"$true => b":                  "b",
		"$false => b":                 "$true",
		"a => $true":                  "$true",
		"a => $false":                 "~ a",
		"$true => $true":              "$true",
		"$true => $false":             "$false",
		"$false => $true":             "$true",
		"$false => $false":            "$true",
		"~ a => $false":               "a",
		"~ ~ a => $false":             "~ a",
		"a != b => $false":            "a = b",
		"(a & b) => $false":           "~ (a & b)",
		"(a & $true) => (b | $false)": "a => b",
		"~ $true => b":                "$true",
		"~ $false => (b & c)":         "b & c",
		"$true => (b => $false)":      "~ b",
		"(a => $false) => $false":     "a",
		"$false <= a":                 "~ a",
		"b <= $true":                  "b",
		"(a => b) => (c => d)":        "(a => b) => (c => d)",
		"! [X] : $false => b":         "$true",
	})
}

func TestSimpleOfIffAndXor(t *testing.T) {
	table(t, simple(), map[string]string{
		"a <=> b":              "a <=> b",
		"a <=> a":              "a <=> a",
		"$true <=> a":          "a",
		"a <=> $true":          "a",
		"$false <=> a":         "~ a",
		"a <=> $false":         "~ a",
		"$false <=> ~ a":       "a",
		"~ ~ a <=> $false":     "~ a",
		"a != b <=> $false":    "a = b",
		"$true <=> $true":      "$true",
		"$true <=> $false":     "$false",
		"$false <=> $true":     "$false",
		"$false <=> $false":    "$true",
		"a <~> b":              "a <~> b",
		"a <~> a":              "a <~> a",
		"$true <~> a":          "~ a",
		"a <~> $true":          "~ a",
		"$false <~> a":         "a",
		"a <~> $false":         "a",
		"$true <~> ~ a":        "a",
		"~ a <~> $true":        "a",
		"$true <~> $true":      "$false",
		"$true <~> $false":     "$true",
		"$false <~> $true":     "$true",
		"$false <~> $false":    "$false",
		"~ a <=> ~ b":          "~ a <=> ~ b",
		"(a | $true) <=> ~ b":  "~ b",
		"(a & $false) <=> ~ b": "b",
		"(a & b) <~> ~ $false": "~ (a & b)",
		"a & ($true <=> (b & c)) & ((b | d) <=> $false)":                  "a & b & c & ~ (b | d)",
		"(($true <=> $false) <=> ($true <~> $false)) <=> ! [X] : (a & a)": "~ (a & a)",
	})
}

func TestSimpleOfAllAndSome(t *testing.T) {
	for _, sign := range []string{"! ", "? "} {
		for text, want := range map[string]string{
			"![X] : p(X)":                       "![X] : p(X)",
			"![X] : p(Y)":                       "p(Y)",
			"![X,Y,Z] : p(X,Y,Z)":               "![X,Y,Z] : p(X,Y,Z)",
			"![X,Y,Z] : p(Z,X)":                 "![X,Z] : p(Z,X)",
			"![Z,Y,X] : p(X,Z)":                 "![Z,X] : p(X,Z)",
			"![X,Y,Z] : p(Y)":                   "![Y] : p(Y)",
			"![X,Y,Z] : p(a)":                   "p(a)",
			"![X,Y,Z] : p(A,B)":                 "p(A,B)",
			"![X] : X = X":                      "![X] : X = X",
			"![X] : f(g(Y,h(X))) = a":           "![X] : f(g(Y,h(X))) = a",
			"![X] : p('X')":                     "p('X')",
			"![X] : 'X'":                        "'X'",
			"![X] : $true":                      "$true",
			"![X] : $false":                     "$false",
			"![X] : (p(X) & $false)":            "$false",
			"![X,Y] : (p(X) & (q(Y) | $true))":  "![X] : p(X)",
			"![X] : ![X] : p(X)":                "![X] : p(X)",
			"![X,Y] : ![X] : p(X,Y)":            "![Y] : ![X] : p(X,Y)",
			"![X] : ![Y] : p(X)":                "![X] : p(X)",
			"![X] : ![Y] : p(Y)":                "![Y] : p(Y)",
			"![X] : ![Y] : p(X,Y)":              "![X] : ![Y] : p(X,Y)",
			"![X] : (p(X) | ![X] : p(X))":       "![X] : (p(X) | ![X] : p(X))",
			"![X] : (p(Y) | ![X] : p(X))":       "p(Y) | ![X] : p(X)",
			"![X] : (a & (b & ![Y] : (c & d)))": "a & b & c & d",
			"![X] : ~ ~ p(X)":                   "![X] : p(X)",
			"~ ![X] : ~ q":                      "q",
			"![X] : ($true => p(X))":            "![X] : p(X)",
			"![X] : (p(X) => $true)":            "$true",
		} {
			makes(t, simple(), strings.ReplaceAll(text, "!", sign), strings.ReplaceAll(want, "!", sign))
		}
	}
	makes(t, simple(), "! [X] : ? [X] : p(X)", "? [X] : p(X)")
	makes(t, simple(), "? [X,Y] : ! [Y] : p(X,Y)", "? [X] : ! [Y] : p(X,Y)")
}

// TestSimpleOfWhatIsThat: of one formula of each Op that nothing becomes of.
func TestSimpleOfWhatIsThat(t *testing.T) {
	for _, text := range []string{
		"$true", "$false", "p", "p(X,f(a))", "X = Y", "f(X) = 'A'", "~ p", "X != Y", "a & b", "a | b | c", "a => b", "a <=> b", "a <~> b", "! [X] : p(X)", "? [X,Y] : q(X,Y)",
		"! [X] : ? [Y] : ! [Z] : q(X,Y,Z)", "~ (a & ~ (b | ~ c))", "(a & b) | (c & (d | ~ e))", "! [X] : ! [Y] : q(X,Y)",
	} {
		makes(t, simple(), text, text)
	}
}

// TestSimpleFirstLine: where two fit, it is as the first one says.
func TestSimpleFirstLine(t *testing.T) {
	table(t, simple(), map[string]string{
		"$true & $false":                 "$false",
		"$false | $true":                 "$true",
		"$true => $false":                "$false",
		"$false => $false":               "$true",
		"$true <=> $false":               "$false",
		"$true <~> $false":               "$true",
		"~ ~ $true":                      "$true",
		"~ ~ ~ a":                        "~ a",
		"(a & $true) & ($true & $false)": "$false",
	})
}

// TestSimpleByPartsThatBecame: what fits no line does so when its parts became simple.
func TestSimpleByPartsThatBecame(t *testing.T) {
	f := atom("a")
	for range 46 {
		f = not(and(yes(), implies(all("X", f), no())))
	}
	becomes(t, simple(), f, atom("a"))
	g := yes()
	for range 40 {
		g = xor(iff(some("X", g), no()), not(yes()))
	}
	becomes(t, simple(), g, yes())
	h := atom("p", v("X"))
	for range 45 {
		h = all("X", or(no(), some("Y", and(h, all("X", yes())))))
	}
	becomes(t, simple(), h, all("X", atom("p", v("X"))))
}
