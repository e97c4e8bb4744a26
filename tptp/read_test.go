package tptp_test

import (
	"strings"
	"testing"

	"syllogism/api"
	"syllogism/tptp"
)

func TestExamples(t *testing.T) {
	files := []api.File{file("f", "cnf(a1, axiom, p(X) | ~ q). fof(a2, axiom, q)."), file("g", "fof(a0, axiom, p). include('g').")}
	one, two := cnf("a1", "axiom", "p(X) | ~ q"), fof("a2", "axiom", "q")
	reads(t, "include('f'). fof(c, conjecture, ? [X] : p(X)).", files, one, two, fof("c", "conjecture", "? [X] : p(X)"))
	reads(t, "include('f',[a2]).", files, two)
	faulty(t, "include('h').", files, -1, 8, api.ErrMissing)
	faulty(t, "include('f',[a3]).", files, -1, 13, api.ErrMissing)
	faulty(t, "fof(x, axiom, p(X)).", files, -1, 0, api.ErrFree)
	faulty(t, "fof(x, thing, p).", files, -1, 7, api.ErrRole)
	faulty(t, "cnf(x, axiom, ! [X] : p(X)).", files, -1, 0, api.ErrClause)
	faulty(t, "fof(x, axiom, p)", files, -1, 16, api.ErrItem)
	faulty(t, "include('g').", files, 1, 27, api.ErrCycle)
}

func TestReadRoles(t *testing.T) {
	for _, role := range roles() {
		reads(t, "fof(a, "+role+", p => q).", nil, fof("a", role, "p => q"))
		reads(t, "fof(a,"+role+",p)."+"fof(b,"+role+",q).", nil, fof("a", role, "p"), fof("b", role, "q"))
		faulty(t, "fof(a, "+role+"s, p).", nil, -1, 7, api.ErrRole)
		faulty(t, "cnf(a, "+role+"_, p).", nil, -1, 7, api.ErrRole)
		if role == "conjecture" {
			faulty(t, "cnf(a, conjecture, p).", nil, -1, 7, api.ErrRole)
			continue
		}
		reads(t, "cnf(a, "+role+", p(X) | q).", nil, cnf("a", role, "p(X) | q"))
	}
}

// TestReadNames: lower tokens, numbers, and quoted ones that are names.
func TestReadNames(t *testing.T) {
	forty := strings.Repeat("a", 40)
	for written, name := range map[string]string{"a": "a", "aB_1": "aB_1", "'a'": "a", "'Ab'": "Ab", "1": "1", "007": "007", "0": "0", "'1'": "1", "'_'": "_", "'1a'": "1a", "fof": "fof", "include": "include", "axiom": "axiom", forty: forty, "'" + forty + "'": forty, strings.Repeat("1", 40): strings.Repeat("1", 40)} {
		reads(t, "fof("+written+", axiom, p).", nil, fof(name, "axiom", "p"))
		reads(t, "cnf("+written+", axiom, p).", nil, cnf(name, "axiom", "p"))
		files := []api.File{file("f", "fof(other,axiom,q).fof("+written+",axiom,p).")}
		reads(t, "include('f', ["+written+"]).", files, fof(name, "axiom", "p"))
		reads(t, "include('f', [other, "+written+"]).", files, fof("other", "axiom", "q"), fof(name, "axiom", "p"))
		reads(t, "include('f', ['"+name+"']).", files, fof(name, "axiom", "p"))
	}
	for written, at := range map[string]int{"X": 0, "$true": 0, "'a b'": 0, "'a-b'": 0, "' '": 0, "'%'": 0, ".": 0, "=": 0, "[": 0, "'\"'": 0, "": 0, "p(a)": 1, "a b": 2, "1 2": 2, "a:b": 1} {
		faulty(t, "fof("+written+", axiom, p).", nil, -1, 4+at, api.ErrItem)
		faulty(t, "include('f', ["+written+"]).", nil, -1, 14+at, api.ErrItem)
	}
	reads(t, "fof(a, axiom, p). fof(a, axiom, q). cnf(a, plain, p).", nil, fof("a", "axiom", "p"), fof("a", "axiom", "q"), cnf("a", "plain", "p"))
}

func TestReadFormulas(t *testing.T) {
	for _, text := range []string{"p", "~ p", "$true", "$false", "~ $true", "~ ~ p", "a = b", "a != b", "p & q & r", "(p & q) & r", "p => q", "p <= q", "p <=> q", "p <~> q", "p ~| q", "p ~& q", "! [X] : p(X)", "? [X,Y] : X = Y", "! [X] : (p(X) => ? [Y] : q(X,Y))", "((p))", "'P'('A')", "fof = cnf", "axiom(include)"} {
		reads(t, "fof(a, axiom, "+text+").", nil, fof("a", "axiom", text))
		reads(t, "fof(a,conjecture,("+text+")).", nil, fof("a", "conjecture", text))
	}
	for _, text := range []string{"p", "~ p", "$true", "$false", "~ $true", "~ $false", "p(X)", "X = Y", "X != f(a)", "p | q", "p | ~ q(X) | X = a | X != b | $false", "(p)", "(p | q)", "(p) | (~ q)", "~ (p)", "~ X = a"} {
		reads(t, "cnf(a, axiom, "+text+").", nil, cnf("a", "axiom", text))
		reads(t, "cnf(a,negated_conjecture,("+text+")).", nil, cnf("a", "negated_conjecture", text))
	}
	for _, text := range []string{"~ ~ p", "~ X != a", "p & q", "(p | q) | r", "p | (q | r)", "~ (p | q)", "p => q", "p <= q", "p <=> q", "p <~> q", "p ~| q", "p ~& q", "! [X] : p(X)", "? [X] : p(X)", "p | ! [X] : p(X)", "p | ~ ~ q"} {
		faulty(t, " cnf(a, axiom, "+text+").", nil, -1, 1, api.ErrClause)
	}
	for _, text := range []string{"p(X)", "X = X", "! [X] : p(X) => q(X)", "? [Y] : X = Y", "p & q(f(Z))", "~ X != a"} {
		faulty(t, " fof(a, axiom, "+text+").", nil, -1, 1, api.ErrFree)
		faulty(t, "fof(b, axiom, p).\nfof(a, axiom, "+text+").", nil, -1, 18, api.ErrFree)
	}
}

// TestReadNothing: an empty text, one of blanks and remarks alone; so with files.
func TestReadNothing(t *testing.T) {
	for _, text := range []string{"", " ", "\n", "% fof(a, axiom, p).", "/* fof(a, axiom, p). */", " \t\r\n% x\n/* y */ % z"} {
		for _, files := range [][]api.File{nil, {}, {file("", "")}, {file("f", "#")}} {
			reads(t, text, files)
			if l, _, _ := tptp.Read(text, files); len(l) > 0 {
				t.Error(l)
			}
		}
		reads(t, "include('f').", []api.File{file("f", text)})
		reads(t, "include('f').include('f').fof(a,axiom,p).", []api.File{file("f", text)}, fof("a", "axiom", "p"))
		faulty(t, "include('f',[a]).", []api.File{file("f", text)}, -1, 13, api.ErrMissing)
	}
}

func TestReadIncludes(t *testing.T) {
	files := []api.File{
		file("f", "fof(f1,axiom,p). fof(f2,axiom,q)."),
		file("Dir/g.ax", "fof(g1,axiom,p). include('f'). fof(g2,axiom,q)."),
		file("h", "include('Dir/g.ax',[f2,g1]). fof(h1,axiom,p). include('f',[f1])."),
		file("f", "fof(never,axiom,p). #"),
		file("two words", "fof(w,axiom,p)."),
		file("", "fof(never,axiom,p)."),
		file("unread", "fof(never, #"),
	}
	readsNames(t, "include('f').", files, "f1 f2")
	readsNames(t, "include ( 'f' ) .", files, "f1 f2")
	readsNames(t, "fof(a,axiom,p). include('f'). fof(b,axiom,p).", files, "a f1 f2 b")
	readsNames(t, "include('f'). include('f'). include('f',[f2]).", files, "f1 f2 f1 f2 f2")
	readsNames(t, "include('Dir/g.ax').", files, "g1 f1 f2 g2")
	readsNames(t, "include('Dir/g.ax',[g2]).", files, "g2")
	readsNames(t, "include('Dir/g.ax',[f1]).", files, "f1")
	readsNames(t, "include('Dir/g.ax',[g2,f2,g1]).", files, "g1 f2 g2")
	readsNames(t, "include('Dir/g.ax',[f2,f2,f2]).", files, "f2")
	readsNames(t, "include('h').", files, "g1 f2 h1 f1")
	readsNames(t, "include('h',[f1,f2]).", files, "f2 f1")
	readsNames(t, "include('h',[h1]). include('h',[g1]).", files, "h1 g1")
	readsNames(t, "include('two words').", files, "w")
	readsNames(t, "include('two words',['w']).", files, "w")
	faulty(t, "include('Two words').", files, -1, 8, api.ErrMissing)
	faulty(t, "include('Dir/g').", files, -1, 8, api.ErrMissing)
	faulty(t, "include('f ').", files, -1, 8, api.ErrMissing)
	faulty(t, "include('').", files, -1, 8, api.ErrToken)
	faulty(t, "include('h',[g2]).", files, -1, 13, api.ErrMissing)
	faulty(t, "include('unread').", files, 6, 11, api.ErrToken)
	readsNames(t, "include('f',[a]).", []api.File{file("f", "fof(a,axiom,p). fof(b,axiom,p). cnf(a,plain,q).")}, "a a")
}

// TestReadTwoFilesOfOneName: it is the first one that is read, also when it is the one that can't be.
func TestReadTwoFilesOfOneName(t *testing.T) {
	good, bad := file("f", "fof(good,axiom,p)."), file("f", "fof(bad,axiom,p")
	readsNames(t, "include('f').", []api.File{good, bad}, "good")
	faulty(t, "include('f').", []api.File{bad, good}, 0, 15, api.ErrItem)
	faulty(t, "include('f').", []api.File{file("g", ""), bad, good}, 1, 15, api.ErrItem)
	self := file("f", "include('f').")
	faulty(t, "include('f').", []api.File{self, good}, 0, 8, api.ErrCycle)
	readsNames(t, "include('f').", []api.File{good, self}, "good")
	faulty(t, "include('g').", []api.File{self, file("g", "include('f').")}, 0, 8, api.ErrCycle)
}

// TestReadTheSameFileTwice: one behind the other, and by way of two that include it, none is being read any more.
func TestReadTheSameFileTwice(t *testing.T) {
	files := []api.File{file("f", "fof(a,axiom,p)."), file("g", "include('f'). include('f')."), file("h", "include('g'). include('f'). include('g').")}
	readsNames(t, "include('f'). include('f').", files, "a a")
	readsNames(t, "include('g'). include('g').", files, "a a a a")
	readsNames(t, "include('h').", files, "a a a a a")
	readsNames(t, "include('h'). include('g'). include('f'). include('h',[a]).", files, strings.TrimSpace(strings.Repeat("a ", 13)))
}
