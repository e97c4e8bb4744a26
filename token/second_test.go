package token_test

import (
	"iter"
	"math/rand"
	"regexp"
	"slices"
	"strings"
	"testing"

	"syllogism/api"
	"syllogism/token"
)

// kinds are what the chapter says a token of each kind is, as patterns: a plain second way.
var kinds = func() map[int]*regexp.Regexp {
	var l []string
	for _, s := range signs() {
		l = append(l, regexp.QuoteMeta(s))
	}
	m := map[int]*regexp.Regexp{
		api.TokLower:  regexp.MustCompile(`^[a-z][a-zA-Z0-9_]*`),
		api.TokUpper:  regexp.MustCompile(`^[A-Z][a-zA-Z0-9_]*`),
		api.TokDollar: regexp.MustCompile(`^\$[a-z][a-zA-Z0-9_]*`),
		api.TokQuoted: regexp.MustCompile(`^'[\x20-\x26\x28-\x5b\x5d-\x7e]+'`),
		api.TokNumber: regexp.MustCompile(`^[0-9]+`),
		api.TokSign:   regexp.MustCompile(`^(` + strings.Join(l, "|") + `)`),
	}
	for _, r := range m {
		r.Longest()
	}
	return m
}()

var between = regexp.MustCompile(`^(?:[ \t\n\r]|%[^\n]*|(?s:/\*.*?\*/))+`)

// naive is what Cut is to tell, and what Each.
func naive(text string) (all []api.Token, at int, e api.Errno) {
	if len(text) > 8000 {
		return nil, 0, api.ErrLong
	}
next:
	for {
		at += len(between.FindString(text[at:]))
		if at == len(text) {
			return append(all, end(at)), 0, api.OK
		}
		for kind, r := range kinds {
			s := r.FindString(text[at:])
			if s == "" {
				continue
			}
			x := api.Token{Kind: kind, Text: strings.Trim(s, "'"), At: at}
			if kind != api.TokSign && len(x.Text) > 40 {
				return all, at, api.ErrLong
			}
			all = append(all, x)
			at += len(s)
			continue next
		}
		return all, at, api.ErrToken
	}
}

// held holds both calls against the second way.
func held(t *testing.T, text string) {
	t.Helper()
	all, at, e := naive(text)
	if e == api.OK {
		cuts(t, text, all...)
	} else {
		faulty(t, text, at, e, all...)
	}
}

// words goes over all texts of so many of these bytes.
func words(bytes string, n int) iter.Seq[string] {
	return func(yield func(string) bool) {
		word := make([]byte, n)
		var from func(i int) bool
		from = func(i int) bool {
			if i == n {
				return yield(string(word))
			}
			for k := range len(bytes) {
				word[i] = bytes[k]
				if !from(i + 1) {
					return false
				}
			}
			return true
		}
		from(0)
	}
}

// TestAllShortTexts: of some bytes of each kind; longer ones of those that signs, remarks, quotes are made of.
func TestAllShortTexts(t *testing.T) {
	for _, w := range []struct {
		bytes string
		most  int
	}{
		{"aZ0_$'%/* \n<=>~|&!(.\\\x80", 3}, {"<=>~|&!", 5}, {"/*%\na'", 6}, {"'a \\\"\n", 6}, {"aA0_$ '", 5}, {"/*% \n", 7}, {"/* ", 9},
	} {
		for n := range w.most + 1 {
			for text := range words(w.bytes, n) {
				held(t, text)
			}
		}
	}
}

// TestManyTexts: of pieces thrown together, some of them as long as tokens may be or longer; and of any bytes.
func TestManyTexts(t *testing.T) {
	r := rand.New(rand.NewSource(12))
	_, pieces := long(0, 40)
	pieces = append(pieces, signs()...)
	pieces = append(pieces, "a", "X", "$t", "1", "'q r'", "%", "/*", "*/", "\n", " ", "\t", "/**/", "%x\n", "/* y */", "fof", "Ab", "$false", "'", "_", "'%'")
	seldom := []string{"#", "$", "''", "<", "\\", "\x00", "\xff"}
	ends := map[api.Errno]int{}
	for i := range 20000 {
		text := ""
		for range r.Intn(30) {
			text += pieces[r.Intn(len(pieces))]
			if i%2 == 0 {
				text += " "
			}
		}
		if i%3 == 0 {
			text += seldom[r.Intn(len(seldom))]
		}
		held(t, text)
		_, _, e := token.Cut(text)
		ends[e]++
	}
	if len(ends) != 3 || ends[api.OK] < 500 || ends[api.ErrLong] < 500 || ends[api.ErrToken] < 500 {
		t.Error(ends)
	}
	for range 20000 {
		b := make([]byte, r.Intn(30))
		for i := range b {
			b[i] = byte(r.Intn(256))
		}
		held(t, string(b))
		held(t, "a%"+string(b)+"\n/*"+string(b)+"*/")
	}
}

// TestNamesBySecondWay: all short texts, and pieces around the bound.
func TestNamesBySecondWay(t *testing.T) {
	name := regexp.MustCompile(`\A[a-zA-Z0-9_]{1,40}\z`)
	word := regexp.MustCompile(`\A[a-z]`)
	check := func(s string) {
		switch {
		case !name.MatchString(s):
			names(t, s, "")
		case word.MatchString(s):
			names(t, s, s)
		default:
			names(t, s, "'"+s+"'")
		}
	}
	for n := range 5 {
		for s := range words("azAZ09_-$' \n\x80", n) {
			check(s)
			check(strings.Repeat("a", 37) + s)
			check(s + strings.Repeat("B", 37))
		}
	}
}

// TestTokensAreOfTheText: each stands at its place, as it is written; they rise; nothing but gaps is between; the end is last, and once.
func TestTokensAreOfTheText(t *testing.T) {
	r := rand.New(rand.NewSource(21))
	for range 3000 {
		text := thrown(r, 40)
		l, _, e := token.Cut(text)
		if e != api.OK {
			t.Fatalf("%q: %v", text, e)
		}
		from := 0
		for i, x := range l {
			written := write(x)
			if x.At < from || !strings.HasPrefix(text[x.At:], written) || between.ReplaceAllString(text[from:x.At], "") != "" {
				t.Fatalf("%q: %v", text, x)
			}
			from = x.At + len(written)
			if (x.Kind == api.TokEnd) != (i == len(l)-1) || x.Kind < api.TokLower || x.Kind > api.TokEnd {
				t.Fatalf("%q: %v", text, l)
			}
		}
		if from != len(text) || !slices.Equal(collect(text), l) {
			t.Fatalf("%q: %v", text, l)
		}
	}
}
