package formula_test

import (
	"math"
	"slices"
	"strings"
	"testing"

	"syllogism/api"
	"syllogism/formula"
)

func TestExamples(t *testing.T) {
	a, b, c, p, q, x, y := atom("a"), atom("b"), atom("c"), atom("p", v("X")), atom("q"), v("X"), v("Y")
	parses(t, "! [X] : p(X) => q", implies(all("X", p), q))
	parses(t, "a & b & c", and(a, b, c))
	parses(t, "(a & b) & c", and(and(a, b), c))
	faulty(t, "a & b | c", 6, api.ErrForm)
	parses(t, "p(X)=Y & ~ a != b", and(eq(of("p", x), y), not(not(eq(of("a"), of("b"))))))
	faulty(t, "X", 1, api.ErrForm)
	faulty(t, "p()", 2, api.ErrForm)
	faulty(t, "! [] : a", 3, api.ErrForm)
	faulty(t, "! [X,X] : p(X)", 0, api.ErrArg)
	writes(t, implies(some("Y", and(atom("p", y), q)), not(eq(of("a"), of("b")))), "? [Y] : (p(Y) & q) => a != b")
	free(t, or(p, all("X", atom("q", x, y))), "X", "Y")
}

func TestParseUnits(t *testing.T) {
	a, b, x := atom("a"), atom("b"), v("X")
	for text, want := range map[string]api.Form{
		"$true": yes(), "$false": no(), "a": a, "'a'": a, "'A'": atom("A"), "'1'": atom("1"), "'_x'": atom("_x"), "'X'": atom("X"), "true": atom("true"),
		"p(X)": atom("p", x), "p(a,X,'B')": atom("p", of("a"), x, of("B")), "'P'(f(g(X),a))": atom("P", of("f", of("g", x), of("a"))), "p(a,b,c,d,e,f)": atom("p", of("a"), of("b"), of("c"), of("d"), of("e"), of("f")),
		"X = Y": eq(x, v("Y")), "X=a": eq(x, of("a")), "a=X": eq(of("a"), x), "f(X) = g(a,b)": eq(of("f", x), of("g", of("a"), of("b"))), "'A'='X'": eq(of("A"), of("X")), "a = a": eq(of("a"), of("a")),
		"X != Y": not(eq(x, v("Y"))), "f(X)!=a": not(eq(of("f", x), of("a"))), "~ X = Y": not(eq(x, v("Y"))), "~ X != Y": not(not(eq(x, v("Y")))), "~~X!=Y": not(not(not(eq(x, v("Y"))))),
		"~ a": not(a), "~~a": not(not(a)), "~ ~ ~ $true": not(not(not(yes()))), "~(a)": not(a), "~ (~ (a))": not(not(a)), "(~ a)": not(a), "((a))": a, "(((X = Y)))": eq(x, v("Y")), "(X != a)": not(eq(x, of("a"))), "($true)": yes(),
		"! [X] : a": all("X", a), "? [X] : a": some("X", a), "![X,Y,Z]:a": all("X Y Z", a), "? [X0,X1] : X0 = X1": some("X0 X1", eq(v("X0"), v("X1"))), "! [X] : ? [X] : ! [Y] : b": all("X", some("X", all("Y", b))),
		"! [X] : (p(X))": all("X", atom("p", x)), "! [X] : ~ a": all("X", not(a)), "~ ! [X] : a": not(all("X", a)), "! [X] : $false": all("X", no()), "! [X] : X != a": all("X", not(eq(x, of("a")))),
		"! [X] : (a & b)": all("X", and(a, b)), "(! [X] : a)": all("X", a), "~ (a | b)": not(or(a, b)), "~ (a => b)": not(implies(a, b)), "(a & b)": and(a, b), "((a <=> b))": iff(a, b),
	} {
		for _, text := range []string{text, " " + text + " ", "% so\n" + text, text + "% so", "/**/" + text + "/* ( */"} {
			parses(t, text, want)
		}
	}
}

// TestParseOps: each op of the grammar, between units of each kind.
func TestParseOps(t *testing.T) {
	units := map[string]api.Form{
		"a": atom("a"), "$true": yes(), "X = a": eq(v("X"), of("a")), "b != X": not(eq(of("b"), v("X"))), "~ c": not(atom("c")), "! [X] : p(X)": all("X", atom("p", v("X"))), "? [Y] : ~ b": some("Y", not(atom("b"))),
		"(a & b)": and(atom("a"), atom("b")), "(a <= b)": implies(atom("b"), atom("a")), "(a ~& b)": not(and(atom("a"), atom("b"))), "((a | b))": or(atom("a"), atom("b")), "~ (a <=> b)": not(iff(atom("a"), atom("b"))),
	}
	ops := map[string]func(f, g api.Form) api.Form{
		"=>": func(f, g api.Form) api.Form { return implies(f, g) }, "<=": func(f, g api.Form) api.Form { return implies(g, f) }, "<=>": func(f, g api.Form) api.Form { return iff(f, g) },
		"<~>": func(f, g api.Form) api.Form { return xor(f, g) }, "~|": func(f, g api.Form) api.Form { return not(or(f, g)) }, "~&": func(f, g api.Form) api.Form { return not(and(f, g)) },
		"&": func(f, g api.Form) api.Form { return and(f, g) }, "|": func(f, g api.Form) api.Form { return or(f, g) },
	}
	for one, f := range units {
		for two, g := range units {
			for op, join := range ops {
				parses(t, one+" "+op+" "+two, join(f, g))
				parses(t, "("+one+op+two+")", join(f, g))
				parses(t, "~("+one+" "+op+" "+two+")", not(join(f, g)))
				parses(t, "?[Z]:("+one+" "+op+" "+two+") "+op+" b", join(some("Z", join(f, g)), atom("b")))
			}
			for _, op := range []string{"&", "|"} {
				parses(t, one+op+two+op+one, form(ops[op](f, g).Op, f, g, f))
				parses(t, one+" "+op+" ("+two+" "+op+" "+one+") "+op+" "+two, form(ops[op](f, g).Op, f, form(ops[op](f, g).Op, g, f), g))
			}
		}
	}
	parses(t, strings.Repeat("a & ", 148)+"a", and(many(149, atom("a"))...))
	parses(t, strings.Repeat("a|", 148)+"a", or(many(149, atom("a"))...))
}

// TestParseLeavesWhatIsBehind: it is the first token behind the formula that is told.
func TestParseLeavesWhatIsBehind(t *testing.T) {
	for _, s := range []string{
		"a & b #| c", "a | b #& c", "a | b | c #& d & e", "a => b #=> c", "a <= b #<= c", "a <=> b #<=> c", "a <~> b #<~> c", "a ~| b #~| c", "a ~& b #~& c", "a & b #=> c", "a => b #& c", "a => b #| c", "a | b #=> c", "a & b #~& c",
		"a #b", "a #$true", "$true #a", "$true #= a", "$true #(a)", "$true #!= a", "(a) #(b)", "(a) #)", "a #)", "a #.", "$false #(b)", "a #~ b", "a #! [X] : b", "a #[", "a #]", "a #,b", "a #: b", "a #X", "a #12", "a #'b c'",
		"X = a #= b", "X = a #!= b", "X != a #= b", "a = b #= c", "p(X) #(Y)", "! [X] : a #! [Y] : b", "~ a #~ b", "! [X] : p(X) & q #| r", "(a & b) & c #| d", "~ a & b #| c", "(a => b) => c #=> d", "a = X #(b)", "X = Y #(b)",
	} {
		at := strings.Index(s, "#")
		text := strings.Replace(s, "#", "", 1)
		faulty(t, text, at, api.ErrForm)
		l := cut(t, text)
		next := slices.IndexFunc(l, func(x api.Token) bool { return x.At == at })
		f, _, e := formula.Parse(text[:at])
		if e != api.OK {
			t.Error(text, e)
		}
		reads(t, l, 0, f, next)
	}
}

// TestParseFaults: at # stands the first token that can't stand there; it may be the end.
func TestParseFaults(t *testing.T) {
	for _, s := range []string{
		"#", "  #", "#)", "#&", "#| a", "#=> a", "#= a", "#!= a", "#:", "#.", "#,", "#]", "#[", "#12", "#$a", "#$truex", "#'a b'", "#'a-b'", "#~| a", "#~& a", "#<= a", "#$true1 = a",
		"~ #", "~ #)", "~ #& a", "~ ~ #", "~ #~| a", "~#~&", "~ #12", "(#", "(#)", "( a #", "(a & b#", "(a #b)", "(a | b #& c)", "((a)#", "((a) #b)", "(a =#", "(a #~", "(a => b #=> c)", "(X#)", "(#& a)",
		"a & #", "a & #)", "a & #& b", "a & b & #", "a & b & #| c", "a | #& b", "a => #", "a => #=> b", "a <= #", "a <=> #)", "a <~> #", "a ~| #", "a ~& #12", "a & #'b c'", "a & #$foo", "a | b | #",
		"X#", "X #& a", "X #(a)", "X #)", "X = #", "X = #)", "X = #$true", "X = #12", "X != #", "X = #~ a", "X = #(a)", "a = #", "a = #$true", "a != #! [X] : b", "a & X#", "~ X#", "! [X] : X#", "X #$true", "X #Y", "X #a", "f(X) = #",
		"p(#", "p(#)", "p(X#", "p(X,#", "p(X,#)", "p(X, #,Y)", "p(X #Y)", "p(X #= Y)", "p(#~ a)", "p(#$true)", "p(#(X))", "p(X#(Y))", "p(f(#))", "p(f(X)#", "p(f(X),#)", "p(#'a b')", "p(#12)", "p(a #& b)", "p(X #]", "'P'(#)", "X = f(#)",
		"! #", "! #X : a", "! [#", "! [#]", "! [#] : a", "! [#a] : a", "! [#'X'] : a", "! [X#", "! [X,#", "! [X,#] : a", "! [X #Y] : a", "! [X,#a] : a", "! [X #: a", "! [X] #a", "! [X]#", "! [X] : #", "! [X] : #)", "! [X] : #& a", "? #(X)", "? [X,Y] #= a", "? [#$true] : a", "! [X] #] : a", "! [X#(Y)] : a",
	} {
		at := strings.Index(s, "#")
		text := strings.Replace(s, "#", "", 1)
		faulty(t, text, at, api.ErrForm)
		l := cut(t, text)
		next := slices.IndexFunc(l, func(x api.Token) bool { return x.At == at })
		fails(t, l, 0, next, api.ErrForm)
		faulty(t, "/* */ "+text, at+6, api.ErrForm)
		// A fault is told ahead of what may not be.
		if strings.HasPrefix(text, "a ") {
			faulty(t, "! [X,X] : "+text, at+10, api.ErrForm)
		}
	}
}

// TestParseTellsCutsFaults: ahead of all others, wherever they are.
func TestParseTellsCutsFaults(t *testing.T) {
	long := strings.Repeat("a", 41)
	for text, want := range map[string]struct {
		at int
		e  api.Errno
	}{
		"a # b": {2, api.ErrToken}, ") #": {2, api.ErrToken}, "! [X,X] : a & $": {14, api.ErrToken}, "a 'b": {2, api.ErrToken}, "a /* b": {2, api.ErrToken}, "''": {0, api.ErrToken}, "a <~ b": {2, api.ErrToken}, "\x00": {0, api.ErrToken}, "a\xc3\xa4": {1, api.ErrToken},
		long: {0, api.ErrLong}, ") " + long: {2, api.ErrLong}, "X" + long + " = a": {0, api.ErrLong}, "p('" + long + "')": {2, api.ErrLong}, long + " #": {0, api.ErrLong}, "# " + long: {0, api.ErrToken}, "a & " + strings.Repeat("7", 41): {4, api.ErrLong},
		strings.Repeat(" ", 8001): {0, api.ErrLong}, "a" + strings.Repeat(" ", 8000): {0, api.ErrLong}, strings.Repeat("#", 8001): {0, api.ErrLong}, "a" + strings.Repeat("\n", 100) + "#": {101, api.ErrToken},
	} {
		faulty(t, text, want.at, want.e)
	}
	parses(t, "a"+strings.Repeat(" ", 7999), atom("a"))
	faulty(t, strings.Repeat(" ", 8000), 8000, api.ErrForm)
	faulty(t, "", 0, api.ErrForm)
}

// unfit are texts of formulas that are read, but may not be.
func unfit() map[string]api.Errno {
	args := func(n int) string { return strings.Repeat("a,", n-1) + "a" }
	return map[string]api.Errno{
		"! [X,X] : p(X)": api.ErrArg, "? [X,Y,Z,Y] : a": api.ErrArg, "~ ! [X] : ? [Y,Y] : a": api.ErrArg, "(a & b) => ! [X,X] : c": api.ErrArg,
		"p(" + args(7) + ")": api.ErrLong, "X = f(" + args(7) + ")": api.ErrLong, "p(f(g(" + args(8) + ")))": api.ErrLong, "! [X,X] : p(" + args(7) + ")": api.ErrLong,
		strings.Repeat("~", 29) + "a": api.OK, strings.Repeat("~", 30) + "a": api.ErrLong, strings.Repeat("~", 3000) + "a": api.ErrLong, strings.Repeat("~", 28) + "a != b": api.OK, strings.Repeat("~", 29) + "a != b": api.ErrLong,
		strings.Repeat("(", 3000) + "a" + strings.Repeat(")", 3000): api.OK, "(" + strings.Repeat("(a & ", 29) + "b" + strings.Repeat(")", 30): api.OK, strings.Repeat("(a & ", 30) + "b" + strings.Repeat(")", 30): api.ErrLong,
		strings.Repeat("f(", 29) + "X" + strings.Repeat(")", 29): api.OK, strings.Repeat("f(", 30) + "X" + strings.Repeat(")", 30): api.ErrLong, "X = " + strings.Repeat("f(", 30) + "a" + strings.Repeat(")", 30): api.ErrLong,
		"$true" + strings.Repeat(" & $true", 298): api.OK, "$true" + strings.Repeat(" & $true", 299): api.ErrLong, "a" + strings.Repeat("|a", 148): api.OK, "a" + strings.Repeat("|a", 149): api.ErrLong, "(" + args(1) + " & a)" + strings.Repeat("|a", 149): api.ErrLong,
		"! [X] : " + strings.Repeat("! [X] : ", 28) + "a": api.OK, strings.Repeat("? [Y] : ", 30) + "a": api.ErrLong,
	}
}

// TestParseTellsChecksErrors: at the first token, behind all of ErrForm's but what stands behind the formula.
func TestParseTellsChecksErrors(t *testing.T) {
	for text, want := range unfit() {
		f, at, e := formula.Parse(text)
		if e != want || at != 0 || (want != api.OK) != zero(f) {
			t.Errorf("%.100q: %d %v, not %v", text, at, e, want)
		}
		if want == api.OK {
			continue
		}
		for _, ahead := range []string{" ", "\n\n", "% so\n", "/* a & */ "} {
			faulty(t, ahead+text, len(ahead), want)
		}
		faulty(t, text+" )", 0, want)
		faulty(t, text+" b", 0, want)
		faulty(t, "("+text+") & )", len(text)+5, api.ErrForm)
		faulty(t, "("+text, len(text)+1, api.ErrForm)
		faulty(t, text+" #", len(text)+1, api.ErrToken)
		faulty(t, "a & ("+text+")", 0, want)
		l := cut(t, ") , "+text+" ) b")
		fails(t, l, 2, 2, want)
		fails(t, l, 0, 0, api.ErrForm)
		fails(t, l[2:], 0, 0, want)
	}
}

// TestReadFromEachToken: what begins there, and nothing of what is ahead.
func TestReadFromEachToken(t *testing.T) {
	l := cut(t, "! [X] : p(X,a) => (q & ~ b = 'C') | X")
	p, q, b := atom("p", v("X"), of("a")), atom("q"), eq(of("b"), of("C"))
	reads(t, l, 0, implies(all("X", p), and(q, not(b))), 20)
	reads(t, l, 5, implies(p, and(q, not(b))), 20)
	reads(t, l, 9, atom("a"), 10)
	reads(t, l, 13, and(q, not(b)), 19)
	reads(t, l, 15, not(b), 19)
	reads(t, l, 16, b, 19)
	reads(t, l, 18, atom("C"), 19)
	for from, next := range map[int]int{1: 1, 2: 3, 3: 3, 4: 4, 6: 8, 7: 8, 8: 8, 10: 10, 11: 11, 12: 22, 14: 14, 17: 17, 19: 19, 20: 20, 21: 22, 22: 22} {
		fails(t, l, from, next, api.ErrForm)
	}
	if len(l) != 23 {
		t.Fatal(len(l))
	}
}

// TestReadFromNowhere: below 0 and behind the last, of none too.
func TestReadFromNowhere(t *testing.T) {
	for _, l := range [][]api.Token{nil, {}, cut(t, "a"), cut(t, "a")[:1], cut(t, ""), cut(t, "a & b | )")} {
		for _, from := range []int{-1, -2, math.MinInt, math.MinInt32, len(l), len(l) + 1, math.MaxInt, math.MaxInt32} {
			fails(t, l, from, 0, api.ErrForm)
		}
	}
}

// TestReadOfListsThatEndTooEarly: it is the last token that is told. Where a formula is whole it needs no token behind it.
func TestReadOfListsThatEndTooEarly(t *testing.T) {
	a, b, x, y := atom("a"), atom("b"), v("X"), v("Y")
	for text, whole := range map[string]map[int]api.Form{
		"a & b & ~ a":                  {1: a, 3: and(a, b), 6: and(a, b, not(a))},
		"a | (b | a) | b":              {1: a, 7: or(a, or(b, a)), 9: or(a, or(b, a), b)},
		"! [X,Y] : p(X,f(Y)) => $true": {8: all("X Y", atom("p")), 16: all("X Y", atom("p", x, of("f", y))), 18: implies(all("X Y", atom("p", x, of("f", y))), yes())},
		"X != f(Y)":                    {3: not(eq(x, of("f"))), 6: not(eq(x, of("f", y)))},
		"a <=> b":                      {1: a, 3: iff(a, b)},
		"((a) ~| b)":                   {7: not(or(a, b))},
		"? [X] : X = Y":                {8: some("X", eq(x, y))},
		"a = b & a":                    {1: a, 3: eq(of("a"), of("b")), 5: and(eq(of("a"), of("b")), a)},
	} {
		l := cut(t, text)
		for n := range len(l) {
			if f, ok := whole[n]; ok {
				reads(t, l[:n], 0, f, n)
				reads(t, append(cut(t, ") , ")[:2:2], l[:n]...), 2, f, n+2)
				continue
			}
			fails(t, l[:n], 0, max(n-1, 0), api.ErrForm)
			if n > 0 {
				fails(t, append(cut(t, ") , ")[:2:2], l[:n]...), 2, n+1, api.ErrForm)
			}
		}
	}
}

// TestReadOfUnheardTokens: lists that no text gives. A kind that is none, or a sign that is none, stands nowhere; a lower or upper token is one by its kind, and Check tells what its text is.
func TestReadOfUnheardTokens(t *testing.T) {
	tok := func(kind int, text string) api.Token { return api.Token{Kind: kind, Text: text, At: -7} }
	for _, bad := range []api.Token{
		{}, tok(0, "a"), tok(-1, "a"), tok(8, "a"), tok(99, "("), tok(math.MaxInt, "X"), tok(math.MinInt, "~"), tok(api.TokSign, ""), tok(api.TokSign, "a"), tok(api.TokSign, "X"), tok(api.TokSign, "$true"), tok(api.TokSign, "<"), tok(api.TokSign, "<~"), tok(api.TokSign, "( "), tok(api.TokSign, "&&"), tok(api.TokSign, "'"),
		tok(api.TokEnd, ""), tok(api.TokEnd, "a"), tok(api.TokEnd, "("), tok(api.TokDollar, "true"), tok(api.TokDollar, ""), tok(api.TokDollar, "$True"), tok(api.TokDollar, "$true "), tok(api.TokDollar, "a"), tok(api.TokNumber, "1"), tok(api.TokNumber, "a"), tok(api.TokQuoted, ""), tok(api.TokQuoted, "a b"), tok(api.TokQuoted, "'a'"), tok(api.TokQuoted, strings.Repeat("a", 41)), tok(api.TokQuoted, "\xff"),
	} {
		for _, text := range []string{"", "~", "(", "a &", "a & b &", "a | b |", "a =>", "a <=>", "! [X] :", "X =", "X !=", "X", "p(", "p(X,", "! [", "! [X,", "!", "! [X", "! [X]", "p(X", "(a"} {
			l := cut(t, text)
			n := len(l) - 1
			fails(t, append(l[:n:n], bad), 0, n, api.ErrForm)
			fails(t, append(l[:n:n], bad, tok(api.TokLower, "b"), tok(api.TokEnd, "")), 0, n, api.ErrForm)
		}
		for text, f := range map[string]api.Form{"a": atom("a"), "p(X)": atom("p", v("X")), "a & b": and(atom("a"), atom("b")), "X = Y": eq(v("X"), v("Y")), "(a)": atom("a"), "$true": yes(), "~ a": not(atom("a")), "a => b": implies(atom("a"), atom("b"))} {
			l := cut(t, text)
			n := len(l) - 1
			reads(t, append(l[:n:n], bad), 0, f, n)
			reads(t, append(l[:n:n], bad, tok(api.TokSign, "("), tok(api.TokLower, "a")), 0, f, n)
		}
	}
	for _, name := range []string{"", "a b", "$true", strings.Repeat("a", 41), "(", "\xff"} {
		fails(t, []api.Token{tok(api.TokLower, name)}, 0, 0, api.ErrArg)
		fails(t, []api.Token{tok(api.TokSign, ")"), tok(api.TokLower, name), tok(api.TokEnd, "")}, 1, 1, api.ErrArg)
		fails(t, []api.Token{tok(api.TokSign, ")"), tok(api.TokSign, "~"), tok(api.TokLower, "a"), tok(api.TokSign, "="), tok(api.TokUpper, name)}, 1, 1, api.ErrArg)
		fails(t, []api.Token{tok(api.TokUpper, name), tok(api.TokEnd, "")}, 0, 1, api.ErrForm)
	}
	reads(t, []api.Token{tok(api.TokLower, "Xa"), tok(api.TokSign, "="), tok(api.TokQuoted, "b"), tok(api.TokLower, "c")}, 0, eq(of("Xa"), of("b")), 3)
	fails(t, []api.Token{tok(api.TokUpper, "x"), tok(api.TokSign, "="), tok(api.TokQuoted, "b")}, 0, 0, api.ErrArg)
	reads(t, []api.Token{tok(api.TokLower, "a")}, 0, atom("a"), 1)
	reads(t, []api.Token{tok(api.TokLower, "a"), tok(api.TokLower, "b")}, 1, atom("b"), 2)
}
