package token_test

import (
	"strings"
	"testing"

	"syllogism/api"
	"syllogism/token"
)

// names wants what Name and Quote tell of it; written is "" of what is no name.
func names(t *testing.T, s, written string) {
	t.Helper()
	if got := token.Name(s); got != (written != "") {
		t.Errorf("Name(%.60q): %v", s, got)
	}
	if got, ok := token.Quote(s); got != written || ok != (written != "") {
		t.Errorf("Quote(%.60q): %q %v, not %q", s, got, ok, written)
	}
}

func TestNames(t *testing.T) {
	for _, s := range []string{"a", "z", "ab_1", "aB", "x0", "a_", "a__", "axiom", "fof", "include", "zZ9_", "sk1"} {
		names(t, s, s)
	}
	for _, s := range []string{"Ab", "A", "Z", "X", "X0", "1", "0", "12", "007", "1a", "9Z", "_", "__", "_a", "_A", "_1", "ABC_d"} {
		names(t, s, "'"+s+"'")
	}
}

func TestLongNames(t *testing.T) {
	for _, first := range []string{"a", "q", "A", "Q", "0", "7", "_"} {
		for _, more := range []string{"a", "Z", "5", "_"} {
			for n := 1; n <= 100; n++ {
				s := first + strings.Repeat(more, n-1)
				switch {
				case n > 40:
					names(t, s, "")
				case first == "a" || first == "q":
					names(t, s, s)
				default:
					names(t, s, "'"+s+"'")
				}
			}
		}
	}
	for _, n := range []int{8000, 8001, 1 << 20} {
		names(t, strings.Repeat("a", n), "")
	}
}

func TestNoNames(t *testing.T) {
	for _, s := range []string{
		"", " ", "a-b", "a b", " a", "a ", "a\n", "\ta", "$a", "$true", "$", "'a'", "a'", "''", "'", "(", "<=>", "a(b)", "a,b", "a.", "%a", "/**/a", "a\\b", "a\x00", "\x00", "\x7f", "\x80", "\xff",
		"\xc3\xa4", "a\xc3\xa4", "\u0130", "\u212a", "\uff41", "\u0661", "1.5", "-1", "+1", "a\x80b", "@", "[", "`", "{", "/", ":", "^", "a@", "Z[", "z{", "9:", "0/",
	} {
		names(t, s, "")
	}
}

// TestEveryByteInAName: alone, first, within, last.
func TestEveryByteInAName(t *testing.T) {
	const small, others = "abcdefghijklmnopqrstuvwxyz", "ABCDEFGHIJKLMNOPQRSTUVWXYZ0123456789_"
	for b := range 256 {
		c := string([]byte{byte(b)})
		switch {
		case strings.Contains(small, c):
			names(t, c, c)
			names(t, c+"A", c+"A")
			names(t, "_"+c, "'_"+c+"'")
			names(t, "a"+c+"9", "a"+c+"9")
		case strings.Contains(others, c):
			names(t, c, "'"+c+"'")
			names(t, c+"a", "'"+c+"a'")
			names(t, "a"+c, "a"+c)
			names(t, "a"+c+"b", "a"+c+"b")
		default:
			for _, s := range []string{c, c + "a", "a" + c, "a" + c + "b", "A" + c, c + c, strings.Repeat("a", 39) + c, c + strings.Repeat("a", 39)} {
				names(t, s, "")
			}
		}
	}
}

// TestQuoteIsOneToken: lower or quoted, with the name as its text, alone and among others.
func TestQuoteIsOneToken(t *testing.T) {
	const bytes = "azAZ09_"
	for n := 1; n <= 5; n++ {
		for s := range words(bytes, n) {
			oneToken(t, s)
		}
	}
	for _, first := range []string{"a", "A", "0", "_"} {
		oneToken(t, first+strings.Repeat("x", 39))
		oneToken(t, first+strings.Repeat("0", 38))
	}
}

func oneToken(t *testing.T, name string) {
	t.Helper()
	written, ok := token.Quote(name)
	if !ok {
		t.Errorf("%q is no name", name)
	}
	want := quoted(0, name)
	if 'a' <= name[0] && name[0] <= 'z' {
		want = lower(0, name)
	}
	cuts(t, written, want, end(len(written)))
	at := want
	at.At = 1
	cuts(t, "("+written+"(", sign(0, "("), at, sign(1+len(written), "("), api.Token{Kind: api.TokEnd, At: 2 + len(written)})
}
