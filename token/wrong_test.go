package token_test

import (
	"strings"
	"testing"

	"syllogism/api"
)

// begins are the bytes with which, alone, a token or a gap begins that ends there.
const begins = "abcdefghijklmnopqrstuvwxyzABCDEFGHIJKLMNOPQRSTUVWXYZ0123456789()[],.:&|~=!?% \t\n\r"

func TestEveryByteThatBeginsNothing(t *testing.T) {
	wrong := 0
	for b := range 256 {
		c := string([]byte{byte(b)})
		if strings.Contains(begins, c) {
			if l := collect(c); len(l) == 0 || l[len(l)-1] != end(1) {
				t.Errorf("%q: %v", c, l)
			}
			continue
		}
		wrong++
		faulty(t, c, 0, api.ErrToken)
		faulty(t, " "+c, 1, api.ErrToken)
		faulty(t, "(X)"+c, 3, api.ErrToken, sign(0, "("), upper(1, "X"), sign(2, ")"))
		faulty(t, "%\n"+c, 2, api.ErrToken)
		faulty(t, "/*"+c+"*/"+c, 5, api.ErrToken)
		faulty(t, "'"+"q"+"' "+c, 4, api.ErrToken, quoted(0, "q"))
		cuts(t, "%"+c+"\n%"+c, end(5))
		if b != '_' {
			faulty(t, "ab"+c, 2, api.ErrToken, lower(0, "ab"))
		}
		faulty(t, "12"+c, 2, api.ErrToken, number(0, "12"))
		if b != '\'' && b != '=' {
			faulty(t, c+" a", 0, api.ErrToken)
			faulty(t, c+"\n", 0, api.ErrToken)
		}
	}
	if wrong != 256-len(begins) {
		t.Error(wrong)
	}
}

// TestDollars: a small letter must stand behind it, at once.
func TestDollars(t *testing.T) {
	for b := range 256 {
		c := string([]byte{byte(b)})
		if 'a' <= b && b <= 'z' {
			cuts(t, "$"+c, dollar(0, "$"+c), end(2))
			continue
		}
		faulty(t, "$"+c, 0, api.ErrToken)
		faulty(t, "$"+c+"a", 0, api.ErrToken)
		faulty(t, "b $"+c+"true", 2, api.ErrToken, lower(0, "b"))
	}
	faulty(t, "$", 0, api.ErrToken)
	faulty(t, "$$a", 0, api.ErrToken)
	faulty(t, "$a$", 2, api.ErrToken, dollar(0, "$a"))
	faulty(t, "$/**/a", 0, api.ErrToken)
	faulty(t, "$"+strings.Repeat("A", 50), 0, api.ErrToken)
}

// TestQuotes: without an end, without anything, with what may not stand between; the fault is at the quote that begins.
func TestQuotes(t *testing.T) {
	for _, text := range []string{
		"'", "''", "'a", "'a\n'", "'a\tb'", "'\\'", "'a\\'", "'a\\'b'", "'\\\\'", "'\x7f'", "'\x1f'", "'a\x80'", "'\xc3\xa4'", "'a\x00'", "''a'", "'''", "''''", "' ", "'%\n'", "'/*\n*/'", "' a b c",
		"'" + strings.Repeat("a", 50), "'" + strings.Repeat("a", 50) + "\n'", "'" + strings.Repeat("a", 40) + "\\'",
	} {
		faulty(t, text, 0, api.ErrToken)
		faulty(t, "p "+text, 2, api.ErrToken, lower(0, "p"))
	}
	faulty(t, "'a'b'", 4, api.ErrToken, quoted(0, "a"), lower(3, "b"))
	faulty(t, "'a''", 3, api.ErrToken, quoted(0, "a"))
	faulty(t, "'a' '", 4, api.ErrToken, quoted(0, "a"))
}

func TestRemarksWithoutEnd(t *testing.T) {
	for _, text := range []string{
		"/*", "/*/", "/* ", "/* a", "/**", "/* *", "/* * /", "/* %\n", "/*\n", "/* % *\n/", "/*'", "/* /", "/*/*", "/* /*", "/*" + strings.Repeat("a", 100), "/", "/ *", "//", "/a", "/ */", "/\n**/", "*/", "*", "* /",
	} {
		faulty(t, text, 0, api.ErrToken)
		faulty(t, "/* */"+text, 5, api.ErrToken)
		faulty(t, "a%\n"+text, 3, api.ErrToken, lower(0, "a"))
	}
	faulty(t, "a/b", 1, api.ErrToken, lower(0, "a"))
	faulty(t, "a/*b", 1, api.ErrToken, lower(0, "a"))
}

func TestSignsThatAreNone(t *testing.T) {
	for _, text := range []string{
		"<", ">", "<>", "<~", "<~|", "<~&", "<~ >", "< =", "< =>", "<|", "<<=", "<!=", "-", "->", "+", "*", "/", ";", "@", "#", "^", "`", "{", "}", "\"", "\"a\"", "\\", "_", "_a", "\x00", "\x0b", "\x0c", "\x1f", "\x7f", "\x80", "\xa0", "\xc2\xa0", "\xe2\x88\x80", "\xef\xbb\xbfa", "\xff",
	} {
		faulty(t, text, 0, api.ErrToken)
	}
	faulty(t, "<=>>", 3, api.ErrToken, sign(0, "<=>"))
	faulty(t, "=>>", 2, api.ErrToken, sign(0, "=>"))
	faulty(t, "<~>>", 3, api.ErrToken, sign(0, "<~>"))
	faulty(t, "!=>", 2, api.ErrToken, sign(0, "!="))
	faulty(t, "= >", 2, api.ErrToken, sign(0, "="))
	faulty(t, "~>", 1, api.ErrToken, sign(0, "~"))
	faulty(t, "<= >", 3, api.ErrToken, sign(0, "<="))
	faulty(t, "a _b", 2, api.ErrToken, lower(0, "a"))
	faulty(t, "1_", 1, api.ErrToken, number(0, "1"))
}

// long is a token of each kind but a sign, whose text has so many bytes; and how it is written.
func long(at, n int) (l []api.Token, written []string) {
	for _, s := range []string{"a" + strings.Repeat("b", n-1), "a" + strings.Repeat("B", n-1), "z" + strings.Repeat("_", n-1), "z" + strings.Repeat("0", n-1)} {
		l, written = append(l, lower(at, s)), append(written, s)
	}
	for _, s := range []string{"A" + strings.Repeat("b", n-1), strings.Repeat("Z", n), "Z" + strings.Repeat("9", n-1)} {
		l, written = append(l, upper(at, s)), append(written, s)
	}
	for _, s := range []string{"$" + strings.Repeat("a", n-1), "$a" + strings.Repeat("_", n-2)} {
		l, written = append(l, dollar(at, s)), append(written, s)
	}
	for _, s := range []string{strings.Repeat("0", n), strings.Repeat("7", n), "1" + strings.Repeat("0", n-1)} {
		l, written = append(l, number(at, s)), append(written, s)
	}
	for _, s := range []string{strings.Repeat("a", n), strings.Repeat(" ", n), strings.Repeat("%", n), strings.Repeat("7", n), "/*" + strings.Repeat("*", n-2)} {
		l, written = append(l, quoted(at, s)), append(written, "'"+s+"'")
	}
	return l, written
}

// TestLongTokens: 40 bytes of text are a token's, 41 are too long; a dollar counts, quotes do not.
func TestLongTokens(t *testing.T) {
	for _, n := range []int{2, 39, 40} {
		l, written := long(2, n)
		for i, s := range written {
			cuts(t, "( "+s+" )", sign(0, "("), l[i], sign(3+len(s), ")"), end(4+len(s)))
		}
	}
	for _, n := range []int{41, 42, 80, 1000, 7000} {
		_, written := long(0, n)
		for _, s := range written {
			faulty(t, s, 0, api.ErrLong)
			faulty(t, "( "+s+" )", 2, api.ErrLong, sign(0, "("))
			faulty(t, "/*"+s[:20]+"*/"+s, 24, api.ErrLong)
		}
	}
	cuts(t, strings.Repeat("a", 40)+" "+strings.Repeat("a", 40), lower(0, strings.Repeat("a", 40)), lower(41, strings.Repeat("a", 40)), end(81))
	cuts(t, strings.Repeat("1", 40)+strings.Repeat("a", 40), number(0, strings.Repeat("1", 40)), lower(40, strings.Repeat("a", 40)), end(80))
}

// TestTheFirstFault: of several, the one that stands first is told, whichever it is.
func TestTheFirstFault(t *testing.T) {
	_, written := long(0, 41)
	for _, s := range written {
		for _, bad := range []string{"#", "$", "''", "'a", "/*", "<~", "\x00", "\xff"} {
			faulty(t, s+" "+bad, 0, api.ErrLong)
			faulty(t, bad+" \n"+s+"\n", 0, api.ErrToken)
			faulty(t, "a "+bad+"\n"+s+"\n", 2, api.ErrToken, lower(0, "a"))
			faulty(t, "a "+s+"/**/"+bad, 2, api.ErrLong, lower(0, "a"))
		}
		for _, u := range written {
			faulty(t, "a "+s+"\n"+u, 2, api.ErrLong, lower(0, "a"))
		}
	}
	faulty(t, "a # $ ''", 2, api.ErrToken, lower(0, "a"))
	faulty(t, "a $ # ''", 2, api.ErrToken, lower(0, "a"))
	cuts(t, "%"+strings.Repeat("a", 50)+" # $ ''", end(58))
	cuts(t, "/*"+strings.Repeat("a", 50)+" # $ '' <~*/", end(64))
}
