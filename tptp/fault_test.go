package tptp_test

import (
	"strings"
	"testing"

	"syllogism/api"
)

// alphabet is a token of each kind and text that matters.
func alphabet() []string {
	return append(strings.Fields("fof cnf include a axiom conjecture thing X $true $i 12 'f' 'axiom' ( ) [ ] , . : & | ~ = ! ? != => <= <=> <~> ~| ~&"), "'b c'", "'fof'", "'('", "')'", "'['", "']'", "','", "'.'")
}

// TestATokenAtEachPlace: of each kind of item, at each place, each token that can't stand there, and the text's end; the fault is at that place. What may stand there is told by hand; the formula's place is tried elsewhere.
func TestATokenAtEachPlace(t *testing.T) {
	const named = "fof cnf include a axiom conjecture thing 12 'f' 'axiom' 'fof'"
	const quoted = "'f' 'axiom' 'b c' 'fof' '(' ')' '[' ']' ',' '.'"
	const role = "fof cnf include a axiom conjecture thing"
	files := []api.File{file("f", "fof(a,axiom,p). fof(b,axiom,p)."), file("g", "")}
	for item, may := range map[string][]string{
		"fof ( a , axiom , p ) .":       {"fof cnf include", "(", named, ",", role, ",", "*", ") ( = != & | => <= <=> <~> ~| ~&", "."},
		"cnf ( a , axiom , p ) .":       {"fof cnf include", "(", named, ",", role, ",", "*", ") ( = != & | => <= <=> <~> ~| ~&", "."},
		"include ( 'f' ) .":             {"fof cnf include", "(", quoted, ") ,", "."},
		"include ( 'f' , [ a ] ) .":     {"fof cnf include", "(", quoted, ") ,", "[", named, "] ,", ")", "."},
		"include ( 'f' , [ a , b ] ) .": {"fof cnf include", "(", quoted, ") ,", "[", named, "] ,", named, "] ,", ")", "."},
	} {
		tokens := strings.Split(item, " ")
		if len(tokens) != len(may) {
			t.Fatal(item)
		}
		for i := range tokens {
			if may[i] == "*" {
				continue
			}
			ahead := strings.Join(tokens[:i], " ")
			for _, x := range append(alphabet(), "") {
				if x != "" && strings.Contains(" "+may[i]+" ", " "+x+" ") || x == "" && i == 0 {
					continue
				}
				text := ahead + " " + x
				at := len(ahead) + 1
				if x == "" {
					at = len(text)
				}
				for _, behind := range []string{"", " " + strings.Join(tokens[i:], " "), " " + strings.Join(tokens[min(i+1, len(tokens)):], " ")} {
					if x == "" && behind != "" {
						continue
					}
					const good = "include('g').\n"
					faulty(t, text+behind, files, -1, at, api.ErrItem)
					faulty(t, good+text+behind, files, -1, len(good)+at, api.ErrItem)
					faulty(t, "include('h').", append(files[:2:2], file("h", good+text+behind)), 2, len(good)+at, api.ErrItem)
				}
			}
		}
	}
}

// TestTheEndAtEachPlace: the text ends behind each token of an item; blanks and remarks behind it are no token.
func TestTheEndAtEachPlace(t *testing.T) {
	for _, item := range []string{"fof ( a , axiom , p & q ) .", "cnf ( a , axiom , p | q ) .", "include ( 'f' , [ a , b ] ) ."} {
		tokens := strings.Split(item, " ")
		for i := 1; i < len(tokens); i++ {
			text := strings.Join(tokens[:i], " ")
			e := api.ErrItem
			if tokens[0] != "include" && (i == 6 || i == 8) { // where a formula, or a unit of it, must stand
				e = api.ErrForm
			}
			for _, rest := range []string{"", " ", "\n% remark", " /* ) . */ "} {
				faulty(t, text+rest, nil, -1, len(text+rest), e)
				faulty(t, "include('f').", []api.File{file("f", text+rest)}, 0, len(text+rest), e)
			}
		}
	}
}

// TestFormulasFaults: what formula.Read says, at its token; what stands behind the formula is an item's fault. A bracket that the formula has not is the item's own.
func TestFormulasFaults(t *testing.T) {
	long := strings.Repeat("a|", 149) + "a"
	for text, want := range map[string]struct {
		at int
		e  api.Errno
	}{
		"": {0, api.ErrForm}, "X": {1, api.ErrForm}, "p(": {2, api.ErrForm}, "p()": {2, api.ErrForm}, "p(X": {4, api.ErrItem}, "p & ": {4, api.ErrForm}, "p & & q": {4, api.ErrForm}, "! [] : p": {3, api.ErrForm}, "! X : p": {2, api.ErrForm}, "! [X] p": {6, api.ErrForm}, "(p": {3, api.ErrItem}, "~ ": {2, api.ErrForm},
		"12": {0, api.ErrForm}, "'a b'": {0, api.ErrForm}, "$i": {0, api.ErrForm}, "a = ": {4, api.ErrForm}, "a = 1": {4, api.ErrForm}, "p(a,b,)": {6, api.ErrForm}, "=": {0, api.ErrForm}, "| p": {0, api.ErrForm}, "[p]": {0, api.ErrForm},
		"! [X,X] : p(X)": {0, api.ErrArg}, "p & ! [X,X] : p(X)": {0, api.ErrArg}, "p(a,a,a,a,a,a,a)": {0, api.ErrLong}, long: {0, api.ErrLong}, strings.Repeat("~", 30) + "p": {0, api.ErrLong}, long + ") q": {0, api.ErrLong}, long + " p": {0, api.ErrLong},
		"p q": {2, api.ErrItem}, "p & q | r": {6, api.ErrItem}, "p => q => r": {7, api.ErrItem}, "p & q.": {5, api.ErrItem}, "p,": {1, api.ErrItem}, "p . fof": {2, api.ErrItem}, "a = b = c": {6, api.ErrItem}, "p ] ": {2, api.ErrItem}, "$true(a)": {5, api.ErrItem}, "p 'a b'": {2, api.ErrItem}, "p $i": {2, api.ErrItem}, "p : q": {2, api.ErrItem},
	} {
		for _, kind := range []string{"fof", "cnf"} {
			ahead := kind + "(a, axiom, "
			faulty(t, ahead+text+").", nil, -1, len(ahead)+want.at, want.e)
			faulty(t, "fof(b,axiom,p). "+ahead+text+").", nil, -1, 16+len(ahead)+want.at, want.e)
			faulty(t, "include('f').", []api.File{file("f", ahead+text+").")}, 0, len(ahead)+want.at, want.e)
		}
	}
}

// TestFaultsOfAnItem: of two, the one that is read first; those of the whole item behind its full stop, at its first token.
func TestFaultsOfAnItem(t *testing.T) {
	faulty(t, "fof(X, thing, p(X)).", nil, -1, 4, api.ErrItem)
	faulty(t, "fof(a, thing p).", nil, -1, 13, api.ErrItem)
	faulty(t, "fof(a, thing", nil, -1, 12, api.ErrItem)
	faulty(t, "fof(a, thing)", nil, -1, 12, api.ErrItem)
	faulty(t, "fof(a, thing,", nil, -1, 7, api.ErrRole)
	faulty(t, "fof(a, thing, &", nil, -1, 7, api.ErrRole)
	faulty(t, "fof(a, thing, p(X)).", nil, -1, 7, api.ErrRole)
	faulty(t, "cnf(a, conjecture p & q).", nil, -1, 18, api.ErrItem)
	faulty(t, "cnf(a, conjecture, p & q).", nil, -1, 7, api.ErrRole)
	faulty(t, "cnf(a, conjecture, ).", nil, -1, 7, api.ErrRole)
	faulty(t, "cnf(a, axiom, p & q", nil, -1, 19, api.ErrItem)
	faulty(t, "cnf(a, axiom, p & q)", nil, -1, 20, api.ErrItem)
	faulty(t, "cnf(a, axiom, p & q) fof", nil, -1, 21, api.ErrItem)
	faulty(t, "cnf(a, axiom, p & q | r).", nil, -1, 20, api.ErrItem)
	faulty(t, "cnf(a, axiom, p & q).", nil, -1, 0, api.ErrClause)
	faulty(t, "cnf(a, axiom, p & q). fof(", nil, -1, 0, api.ErrClause)
	faulty(t, "cnf(a, axiom, p(X) & q).", nil, -1, 0, api.ErrClause)
	faulty(t, "fof(a, axiom, p(X)", nil, -1, 18, api.ErrItem)
	faulty(t, "fof(a, axiom, p(X))", nil, -1, 19, api.ErrItem)
	faulty(t, "fof(a, axiom, p(X)).", nil, -1, 0, api.ErrFree)
	faulty(t, "fof(a, axiom, p(X)). fof(b, thing, p).", nil, -1, 0, api.ErrFree)
	faulty(t, "fof(b, thing, p). fof(a, axiom, p(X)).", nil, -1, 7, api.ErrRole)
	faulty(t, "fof(a, axiom, ! [X,X] : p(Y)).", nil, -1, 14, api.ErrArg)
	faulty(t, "cnf(a, axiom, ! [X,X] : p(Y)).", nil, -1, 14, api.ErrArg)
	faulty(t, "  cnf\n(a, axiom, p & q).", nil, -1, 2, api.ErrClause)
	faulty(t, "fof(a, 'axiom', p).", nil, -1, 7, api.ErrItem)
	faulty(t, "fof(a, Axiom, p).", nil, -1, 7, api.ErrItem)
	faulty(t, "fof(a, 1, p).", nil, -1, 7, api.ErrItem)
	faulty(t, "fof(a, axiom, p, q).", nil, -1, 15, api.ErrItem)
	faulty(t, "'fof'(a, axiom, p).", nil, -1, 0, api.ErrItem)
	faulty(t, "fof(a, axiom, p).. fof(b, axiom, p).", nil, -1, 17, api.ErrItem)
	faulty(t, "tff(a, axiom, p).", nil, -1, 0, api.ErrItem)
}

// TestTokensFaults: token.Cut's goes ahead of all else in that text, as soon as it is begun; but behind what was read ahead of its include.
func TestTokensFaults(t *testing.T) {
	forty := strings.Repeat("a", 41)
	for bad, e := range map[string]api.Errno{"#": api.ErrToken, "$": api.ErrToken, "'": api.ErrToken, "/*": api.ErrToken, forty: api.ErrLong, strings.Repeat("1", 41): api.ErrLong} {
		for _, ahead := range []string{"", ") ", "fof(a, thing, p). ", "fof(a, axiom, p(X)). ", "cnf(a, axiom, p & q). ", "include('f'). ", "include('g'). ", "include('none'). ", "fof(a, axiom, p & ). "} {
			text := ahead + bad
			files := []api.File{file("f", text), file("g", "fof(b, axiom, ( & p).")}
			faulty(t, text, files, -1, len(ahead), e)
			faulty(t, "include('f').", files, 0, len(ahead), e)
			faulty(t, "fof(a, axiom, p). include('f'). fof(a, thing, p).", files, 0, len(ahead), e)
			faulty(t, "fof(a, thing, p). include('f').", files, -1, 7, api.ErrRole)
			faulty(t, "include('g'). include('f').", files, 1, 16, api.ErrForm)
			faulty(t, "include('f').#", files, -1, 13, api.ErrToken)
			faulty(t, "include('f')", files, -1, 12, api.ErrItem)
			faulty(t, "include('f',[a]", files, -1, 15, api.ErrItem)
		}
	}
}

// TestFaultsOfIncludes: in which text, and where; the file's own ahead of a name that it has not.
func TestFaultsOfIncludes(t *testing.T) {
	files := []api.File{
		file("good", "fof(a,axiom,p). fof(b,axiom,p)."),
		file("bad", "fof(a,axiom,p). fof(b,axiom,p(X))."),
		file("self", "fof(a,axiom,p).\ninclude('self')."),
		file("ping", "include('pong',[zz])."),
		file("pong", " include('ping',[zz])."),
		file("deep", "include('good'). include('bad',[zz])."),
		file("lost", "include('good',[a,b]). include('none',[zz])."),
		file("names", "  include('good',[a,zz,yy])."),
		file("below", "include('names',[qq])."),
	}
	for text, want := range map[string]struct {
		file, at int
		e        api.Errno
	}{
		"include('bad').": {1, 16, api.ErrFree}, "include('bad',[zz]).": {1, 16, api.ErrFree}, "include('self').": {2, 24, api.ErrCycle}, "include('self',[zz]).": {2, 24, api.ErrCycle}, "include('ping').": {4, 9, api.ErrCycle}, "include('pong').": {3, 8, api.ErrCycle},
		"include('deep').": {1, 16, api.ErrFree}, "include('lost').": {6, 31, api.ErrMissing}, "include('names').": {7, 20, api.ErrMissing}, "include('below').": {7, 20, api.ErrMissing}, "include('below',[q,r]).": {7, 20, api.ErrMissing},
		"include('good',[zz]).": {-1, 16, api.ErrMissing}, "include('good',[a,b,zz,yy,c]).": {-1, 20, api.ErrMissing}, "include('good',['zz',a]).": {-1, 16, api.ErrMissing}, "include('good',['A']).": {-1, 16, api.ErrMissing}, "include('good',[a, 1]).": {-1, 19, api.ErrMissing},
		"include('none').": {-1, 8, api.ErrMissing}, "include('none',[a]).": {-1, 8, api.ErrMissing}, "include('none'),": {-1, 15, api.ErrItem}, "include('none',[]).": {-1, 16, api.ErrItem}, "include('none',[a,]).": {-1, 18, api.ErrItem}, "include('none',a).": {-1, 15, api.ErrItem},
		"include(none).": {-1, 8, api.ErrItem}, "include(None).": {-1, 8, api.ErrItem}, "include('none' [a]).": {-1, 15, api.ErrItem}, "include('self'": {-1, 14, api.ErrItem}, "include('self').#": {-1, 16, api.ErrToken},
		"include('good'). include('self').": {2, 24, api.ErrCycle}, "include('good'). include('none'). include('self').": {-1, 25, api.ErrMissing}, "include('self'). include('none').": {2, 24, api.ErrCycle}, "include('bad'). fof(": {1, 16, api.ErrFree}, "fof( include('bad').": {-1, 5 + 7, api.ErrItem},
		"include('good',[a]). fof(b,axiom,p(X)).": {-1, 21, api.ErrFree}, "include('good',[zz]). fof(b,axiom,p(X)).": {-1, 16, api.ErrMissing}, "fof(b,axiom,p(X)). include('good',[zz]).": {-1, 0, api.ErrFree},
	} {
		faulty(t, text, files, want.file, want.at, want.e)
	}
	faulty(t, "include('good').", nil, -1, 8, api.ErrMissing)
	faulty(t, "include('good').", []api.File{}, -1, 8, api.ErrMissing)
}

// TestNamesCountWhatAFileIncludes: those alone that are not left out there.
func TestNamesCountWhatAFileIncludes(t *testing.T) {
	files := []api.File{file("f", "fof(a,axiom,p). fof(b,axiom,p). cnf(a,axiom,q)."), file("g", "include('f',[b]). fof(c,axiom,p)."), file("h", "include('f'). include('g',[c]).")}
	readsNames(t, "include('g',[b]).", files, "b")
	readsNames(t, "include('g',[c,b]).", files, "b c")
	faulty(t, "include('g',[b,a,c]).", files, -1, 15, api.ErrMissing)
	readsNames(t, "include('h',[a]).", files, "a a")
	readsNames(t, "include('h',[c,a]).", files, "a a c")
	faulty(t, "fof(x,axiom,p). include('f',[x]).", files, -1, 29, api.ErrMissing)
	faulty(t, "include('f'). include('g',[a]).", files, -1, 27, api.ErrMissing)
	readsNames(t, "fof(a,axiom,p). fof(x,axiom,p). include('f',[b]). fof(y,axiom,p).", files, "a x b y")
}
