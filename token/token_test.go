package token_test

import (
	"fmt"
	"slices"
	"strings"
	"testing"

	"syllogism/api"
	"syllogism/token"
)

func lower(at int, text string) api.Token  { return api.Token{Kind: api.TokLower, Text: text, At: at} }
func upper(at int, text string) api.Token  { return api.Token{Kind: api.TokUpper, Text: text, At: at} }
func dollar(at int, text string) api.Token { return api.Token{Kind: api.TokDollar, Text: text, At: at} }
func quoted(at int, text string) api.Token { return api.Token{Kind: api.TokQuoted, Text: text, At: at} }
func number(at int, text string) api.Token { return api.Token{Kind: api.TokNumber, Text: text, At: at} }
func sign(at int, text string) api.Token   { return api.Token{Kind: api.TokSign, Text: text, At: at} }
func end(at int) api.Token                 { return api.Token{Kind: api.TokEnd, At: at} }

// signs are those of the chapter, in its order.
func signs() []string { return strings.Fields("<=> <~> => <= ~| ~& != ( ) [ ] , . : & | ~ = ! ?") }

func collect(text string) []api.Token { return slices.Collect(token.Each(text)) }

// cuts wants just these tokens, of Cut and of Each.
func cuts(t *testing.T, text string, want ...api.Token) {
	t.Helper()
	if l, at, e := token.Cut(text); !slices.Equal(l, want) || at != 0 || e != api.OK {
		t.Errorf("Cut(%.60q): %v %d %v, not %v", text, l, at, e, want)
	}
	if l := collect(text); !slices.Equal(l, want) {
		t.Errorf("Each(%.60q): %v, not %v", text, l, want)
	}
}

// faulty wants the error at that place, and of Each the tokens ahead of it.
func faulty(t *testing.T, text string, at int, e api.Errno, ahead ...api.Token) {
	t.Helper()
	if l, n, got := token.Cut(text); l != nil || n != at || got != e {
		t.Errorf("Cut(%.60q): %v %d %v, not %v at %d", text, l, n, got, e, at)
	}
	if l := collect(text); !slices.Equal(l, ahead) {
		t.Errorf("Each(%.60q): %v, not %v", text, l, ahead)
	}
}

func TestChapterExamples(t *testing.T) {
	cuts(t, "p(X) <=> ~ q", lower(0, "p"), sign(1, "("), upper(2, "X"), sign(3, ")"), sign(5, "<=>"), sign(9, "~"), lower(11, "q"), end(12))
	cuts(t, "$true'a b'12x%..", dollar(0, "$true"), quoted(5, "a b"), number(10, "12"), lower(12, "x"), end(16))
	faulty(t, "a # b", 2, api.ErrToken, lower(0, "a"))
	for _, text := range []string{"$ a", "'ab", "/* x", "''", "<~"} {
		faulty(t, text, 0, api.ErrToken)
	}
	cuts(t, "~&~~", sign(0, "~&"), sign(2, "~"), sign(3, "~"), end(4))
}

// TestEachKind: the kinds' numbers are written out, since what reads tokens goes by them.
func TestEachKind(t *testing.T) {
	for _, w := range []struct {
		kind        int
		text, inner string
	}{
		{1, "a", "a"}, {1, "z", "z"}, {1, "aZ_09", "aZ_09"}, {1, "m___", "m___"}, {1, "fof", "fof"}, {1, "x1Y2z3_", "x1Y2z3_"},
		{2, "A", "A"}, {2, "Z", "Z"}, {2, "Za_09", "Za_09"}, {2, "X0", "X0"}, {2, "M_m", "M_m"},
		{3, "$a", "$a"}, {3, "$z", "$z"}, {3, "$true", "$true"}, {3, "$a_B9", "$a_B9"}, {3, "$iType", "$iType"},
		{4, "' '", " "}, {4, "'~'", "~"}, {4, "'&'", "&"}, {4, "'('", "("}, {4, "'['", "["}, {4, "']'", "]"}, {4, "'a'", "a"}, {4, "'A b'", "A b"},
		{4, `'"'`, `"`}, {4, "'%'", "%"}, {4, "'a%b'", "a%b"}, {4, "'/*'", "/*"}, {4, "'/* a */'", "/* a */"}, {4, "'$'", "$"}, {4, "'#-+'", "#-+"}, {4, "'12'", "12"}, {4, "'<=>'", "<=>"},
		{5, "0", "0"}, {5, "9", "9"}, {5, "00", "00"}, {5, "007", "007"}, {5, "1234567890", "1234567890"},
	} {
		n := len(w.text)
		is := func(at int) api.Token { return api.Token{Kind: w.kind, Text: w.inner, At: at} }
		cuts(t, w.text, is(0), end(n))
		cuts(t, " "+w.text+"\n", is(1), end(n+2))
		cuts(t, "("+w.text+")", sign(0, "("), is(1), sign(n+1, ")"), end(n+2))
		cuts(t, w.text+" "+w.text, is(0), is(n+1), end(2*n+1))
		cuts(t, w.text+"%"+w.text, is(0), end(2*n+1))
		if !strings.Contains(w.text, "*/") {
			cuts(t, "/*"+w.text+"*/"+w.text, is(n+4), end(2*n+4))
		}
	}
}

// TestEveryWordByte: which bytes go on with a word, with a number, within quotes; which do not.
func TestEveryWordByte(t *testing.T) {
	const letters, digits = "abcdefghijklmnopqrstuvwxyzABCDEFGHIJKLMNOPQRSTUVWXYZ", "0123456789"
	for b := range 256 {
		c := string([]byte{byte(b)})
		word := strings.Contains(letters+digits+"_", c)
		for _, w := range []api.Token{lower(0, "a"), upper(0, "A"), dollar(0, "$a"), number(0, "1")} {
			goes := word
			if w.Kind == api.TokNumber {
				goes = strings.Contains(digits, c)
			}
			if goes {
				w.Text += c
			}
			if l := collect(w.Text + c); len(l) == 0 || l[0] != w && !goes || goes && l[0].Text != w.Text+c {
				t.Errorf("%q: %v", w.Text+c, l)
			}
		}
		if text := "'x" + c + "y'"; b >= 0x20 && b <= 0x7e && b != '\'' && b != '\\' {
			cuts(t, text, quoted(0, "x"+c+"y"), end(5))
			cuts(t, "'"+c+"'", quoted(0, c), end(3))
		} else if b != '\'' {
			faulty(t, text, 0, api.ErrToken)
			faulty(t, "'"+c+"'", 0, api.ErrToken)
		}
	}
}

// TestWhatBeginsAnother: a token ends where what comes is none of it, blank or not.
func TestWhatBeginsAnother(t *testing.T) {
	cuts(t, "aX1$b'c'2dE", lower(0, "aX1"), dollar(3, "$b"), quoted(5, "c"), number(8, "2"), lower(9, "dE"), end(11))
	cuts(t, "1A2", number(0, "1"), upper(1, "A2"), end(3))
	cuts(t, "'a''b'", quoted(0, "a"), quoted(3, "b"), end(6))
	cuts(t, "a'b'c", lower(0, "a"), quoted(1, "b"), lower(4, "c"), end(5))
	cuts(t, "$a$b", dollar(0, "$a"), dollar(2, "$b"), end(4))
	cuts(t, "X.Y", upper(0, "X"), sign(1, "."), upper(2, "Y"), end(3))
	cuts(t, "1.5", number(0, "1"), sign(1, "."), number(2, "5"), end(3))
	cuts(t, "f(X0,a)=X0", lower(0, "f"), sign(1, "("), upper(2, "X0"), sign(4, ","), lower(5, "a"), sign(6, ")"), sign(7, "="), upper(8, "X0"), end(10))
	cuts(t, "fof(a1,axiom,![X]:p(X)).", lower(0, "fof"), sign(3, "("), lower(4, "a1"), sign(6, ","), lower(7, "axiom"), sign(12, ","),
		sign(13, "!"), sign(14, "["), upper(15, "X"), sign(16, "]"), sign(17, ":"), lower(18, "p"), sign(19, "("), upper(20, "X"), sign(21, ")"), sign(22, ")"), sign(23, "."), end(24))
}

func TestSignsThatBeginOthers(t *testing.T) {
	for text, want := range map[string]string{
		"<=>": "<=>", "<=>>": "", "<==>": "<= =>", "<=<=>": "<= <=>", "<=": "<=", "<=~": "<= ~", "<=|": "<= |", "<~>": "<~>", "<~|": "", "<~>~": "<~> ~", "<>": "", "<": "", ">": "", "><": "",
		"=>": "=>", "=>>": "", "==>": "= =>", "==": "= =", "===>": "= = =>", "=<=": "= <=", "=!=": "= !=", "=!": "= !", "!=": "!=", "!==": "!= =", "!=>": "", "!==>": "!= =>", "!!=": "! !=", "!": "!", "!~": "! ~",
		"~|": "~|", "~&": "~&", "~||": "~| |", "~&&": "~& &", "~~|": "~ ~|", "~~&": "~ ~&", "~|~&": "~| ~&", "~": "~", "~=": "~ =", "~!=": "~ !=", "~<=>": "~ <=>", "~<~>": "~ <~>", "~=>": "~ =>",
		"|&": "| &", "&|": "& |", "&~": "& ~", "|~|": "| ~|", "&~&": "& ~&", "||": "| |", "&&": "& &", ".:": ". :", "()": "( )", "[],": "[ ] ,", "?!": "? !", "?=": "? =", "?[": "? [",
	} {
		var l []api.Token
		at := 0
		for _, s := range strings.Fields(want) {
			l = append(l, sign(at, s))
			at += len(s)
		}
		if at == len(text) {
			cuts(t, text, append(l, end(at))...)
		} else if _, _, e := token.Cut(text); e != api.ErrToken || want != "" {
			t.Errorf("%q: %v", text, e)
		}
	}
}

// TestSignsInPairs: each sign alone; each behind each, with something between; and with nothing between, where the first one and the beginning of the second are no longer one.
func TestSignsInPairs(t *testing.T) {
	if len(signs()) != 20 {
		t.Fatal(len(signs()))
	}
	for _, s := range signs() {
		n := len(s)
		cuts(t, s, sign(0, s), end(n))
		cuts(t, "a"+s+"1", lower(0, "a"), sign(1, s), number(n+1, "1"), end(n+2))
		for _, u := range signs() {
			for _, gap := range []string{" ", "\t", "\n", "\r", " \t\r\n ", "/**/", "%\n", "%" + u + "\n", "/*" + s + "*/", " % \n /* */ "} {
				m := n + len(gap)
				cuts(t, s+gap+u, sign(0, s), sign(m, u), end(m+len(u)))
			}
			joined := slices.ContainsFunc(signs(), func(v string) bool {
				return len(v) > n && strings.HasPrefix(v, s) && strings.HasPrefix(s+u, v)
			})
			if !joined {
				cuts(t, s+u, sign(0, s), sign(n, u), end(n+len(u)))
			} else if l := collect(s + u); len(l) > 0 && l[0] == sign(0, s) {
				t.Errorf("%q: %v", s+u, l)
			}
		}
	}
	all := ""
	var l []api.Token
	for _, s := range signs() {
		l = append(l, sign(len(all), s))
		all += s + " "
	}
	cuts(t, all, append(l, end(len(all)))...)
}

func TestNothingButTheEnd(t *testing.T) {
	for _, text := range []string{
		"", " ", "\t", "\n", "\r", " \t\n\r", "%", "%%", "% a", "%\n", "% a\n", "%a\n%b", "%\r\n", "%\r", "% 'a", "% /*", "% /* \n", "%*/\n", "% \x00\x80\xff", "%\n\n%\n",
		"/**/", "/***/", "/****/", "/* */", "/** a **/", "/*/*/", "/*//*/", "/*\n*/", "/* % */", "/*%*/", "/*%\n*/", "/* 'a */", "/* /* */", "/**//**/", "/* */ /* */", "/*\x00\x80\xff*/",
		"/**/%", "/**/%*/", "%/*\n/**/", "%/**/", " /* * / ** / */ ", "/*" + strings.Repeat("*", 50) + "/", "%" + strings.Repeat("x", 100), "/*" + strings.Repeat("x", 100) + "*/",
	} {
		cuts(t, text, end(len(text)))
		cuts(t, "a"+text, lower(0, "a"), end(1+len(text)))
	}
}

// TestWhereRemarksEnd: behind a remark goes on what is told, at its own place.
func TestWhereRemarksEnd(t *testing.T) {
	cuts(t, "%a\nb", lower(3, "b"), end(4))
	cuts(t, "%a\rb", end(4))
	cuts(t, "%a\n%b\nc%d", lower(6, "c"), end(9))
	cuts(t, "a%b\n\nc", lower(0, "a"), lower(5, "c"), end(6))
	cuts(t, "/**/a", lower(4, "a"), end(5))
	cuts(t, "/*/*/a", lower(5, "a"), end(6))
	cuts(t, "/***/a", lower(5, "a"), end(6))
	cuts(t, "/* a **/ b /* c */", lower(9, "b"), end(18))
	cuts(t, "/* a */b/* c */", lower(7, "b"), end(15))
	cuts(t, "/* % */a", lower(7, "a"), end(8))
	cuts(t, "/* % \n*/a\n", lower(8, "a"), end(10))
	cuts(t, "% /*\na", lower(5, "a"), end(6))
	cuts(t, "%/* \n a % */\n b", lower(6, "a"), lower(14, "b"), end(15))
	cuts(t, "p/*x*/q", lower(0, "p"), lower(6, "q"), end(7))
	cuts(t, "1/**/2", number(0, "1"), number(5, "2"), end(6))
	cuts(t, "=/**/=>", sign(0, "="), sign(5, "=>"), end(7))
	cuts(t, "~/**/&", sign(0, "~"), sign(5, "&"), end(6))
	cuts(t, "~%\n|", sign(0, "~"), sign(3, "|"), end(4))
	cuts(t, "$a/**/b", dollar(0, "$a"), lower(6, "b"), end(7))
	cuts(t, "'/*'a'*/'", quoted(0, "/*"), lower(4, "a"), quoted(5, "*/"), end(9))
	cuts(t, "'%'\n'%'", quoted(0, "%"), quoted(4, "%"), end(7))
	faulty(t, "/* */ */", 6, api.ErrToken)
	faulty(t, "/* /* */ */", 9, api.ErrToken)
	faulty(t, "% \n */", 4, api.ErrToken)
}

// TestTextsAsLongAsTheyMayBe: 8000 bytes are cut, 8001 are not, whatever stands in them.
func TestTextsAsLongAsTheyMayBe(t *testing.T) {
	var words, marks []api.Token
	for i := range 4000 {
		words = append(words, lower(2*i, "a"))
		marks = append(marks, sign(2*i, "("), sign(2*i+1, "("))
	}
	cuts(t, strings.Repeat("a ", 4000), append(words, end(8000))...)
	cuts(t, strings.Repeat("(", 8000), append(marks, end(8000))...)
	cuts(t, strings.Repeat(" ", 8000), end(8000))
	cuts(t, "%"+strings.Repeat("x", 7999), end(8000))
	cuts(t, "/*"+strings.Repeat("* ", 3998)+"*/", end(8000))
	cuts(t, strings.Repeat(" ", 7998)+"ab", lower(7998, "ab"), end(8000))
	faulty(t, strings.Repeat(" ", 7999)+"#", 7999, api.ErrToken)
	faulty(t, strings.Repeat("a", 8000), 0, api.ErrLong)
	for _, n := range []int{8001, 8002, 16000, 1 << 16, 1 << 20} {
		for _, piece := range []string{"a", " ", "(", "#", "'", "%", "/*", "$", "\n", "\xff"} {
			faulty(t, strings.Repeat(piece, n)[:n], 0, api.ErrLong)
		}
		faulty(t, "a # "+strings.Repeat(" ", n-4), 0, api.ErrLong)
		faulty(t, "p(X). "+strings.Repeat(" ", n-6), 0, api.ErrLong)
	}
}

// TestPlacesInLines: a place is a count of bytes, from 0 on, whatever lines there are.
func TestPlacesInLines(t *testing.T) {
	text := "% a remark\ncnf(a, axiom,\r\n\tp(X) | ~ 'q r'). /* \xc3\xa4 */\n$false\n"
	var want []api.Token
	from := 0
	for _, w := range []api.Token{
		lower(0, "cnf"), sign(0, "("), lower(0, "a"), sign(0, ","), lower(0, "axiom"), sign(0, ","), lower(0, "p"), sign(0, "("), upper(0, "X"), sign(0, ")"),
		sign(0, "|"), sign(0, "~"), quoted(0, "q r"), sign(0, ")"), sign(0, "."), dollar(0, "$false"),
	} {
		written := w.Text
		if w.Kind == api.TokQuoted {
			written = "'" + w.Text + "'"
		}
		if from == 0 {
			from = len("% a remark\n")
		}
		w.At = from + strings.Index(text[from:], written)
		from = w.At + len(written)
		want = append(want, w)
	}
	cuts(t, text, append(want, end(len(text)))...)
	if got := fmt.Sprint(want[0].At, want[6].At, want[12].At, want[15].At); got != "11 27 36 53" {
		t.Error(got)
	}
}
