package token_test

import (
	"math/rand"
	"slices"
	"strings"
	"testing"

	"syllogism/api"
	"syllogism/token"
)

// write is a token as it stands in a text.
func write(x api.Token) string {
	if x.Kind == api.TokQuoted {
		return "'" + x.Text + "'"
	}
	return x.Text
}

// gaps are blanks and remarks; those by % have their line's end.
func gaps() []string {
	return []string{" ", "\t", "\n", "\r", "\r\n  ", "%\n", "% a #\n", "%'\n", "%/*\n", "% */\n", "/**/", "/***/", "/*/*/", "/* % */", "/* ' */", "/*\n\n*/", "/* x **/", "%\n/**/%%\n\n", " /* \xff\x00 */ % \x80\n\t"}
}

// thrown is a text without a fault, of so many tokens at most, some with nothing between.
func thrown(r *rand.Rand, most int) string {
	_, pieces := long(0, 2+r.Intn(39))
	pieces = append(pieces, signs()...)
	pieces = append(pieces, gaps()...)
	text := ""
	for range r.Intn(most + 1) {
		more := text + pieces[r.Intn(len(pieces))]
		if r.Intn(2) == 0 {
			more += gaps()[r.Intn(len(gaps()))]
		}
		if _, _, e := token.Cut(more); e == api.OK {
			text = more
		}
	}
	return text
}

// unplaced is the tokens but for their places.
func unplaced(l []api.Token) []api.Token {
	l = slices.Clone(l)
	for i := range l {
		l[i].At = 0
	}
	return l
}

// again cuts what tokens are written as, something ahead of each, and wants the same.
func again(t *testing.T, l []api.Token, ahead func() string) {
	t.Helper()
	text := ""
	var want []api.Token
	for _, x := range l {
		text += ahead()
		x.At = len(text)
		want = append(want, x)
		text += write(x)
	}
	if len(text) <= 8000 {
		cuts(t, text, want...)
	}
}

// TestCutAgain: P12.4, with a blank ahead of each, and with whatever gap.
func TestCutAgain(t *testing.T) {
	r := rand.New(rand.NewSource(4))
	for range 3000 {
		l := collect(thrown(r, 60))
		again(t, l, func() string { return " " })
		again(t, l, func() string { return gaps()[r.Intn(len(gaps()))] })
		again(t, l, func() string { return "\n\n" })
	}
	for text := range words("a0'$~&=<> ", 5) {
		if l, _, e := token.Cut(text); e == api.OK {
			again(t, l, func() string { return " " })
		}
	}
}

// TestGapsPutBetween: ahead of a token or behind the one ahead of it, what was there stays; places alone go on by as much. Ahead of the end a remark may still be open, so there it is behind the last token alone.
func TestGapsPutBetween(t *testing.T) {
	r := rand.New(rand.NewSource(5))
	for range 1500 {
		text := thrown(r, 25)
		if r.Intn(3) == 0 {
			text += []string{"%", "% the end", "%/*"}[r.Intn(3)]
		}
		l, _, _ := token.Cut(text)
		behind := 0
		for i, x := range l {
			places := []int{behind, x.At}
			if x.Kind == api.TokEnd {
				places = places[:1]
			}
			for _, at := range places {
				gap := gaps()[r.Intn(len(gaps()))]
				want := slices.Clone(l)
				for j := i; j < len(want); j++ {
					want[j].At += len(gap)
				}
				cuts(t, text[:at]+gap+text[at:], want...)
			}
			behind = x.At + len(write(x))
		}
	}
}

// TestGapsBetweenEveryTwo: all at once, and each gap by itself.
func TestGapsBetweenEveryTwo(t *testing.T) {
	const text = "fof(a,axiom,! [X]:(p(X)<=>'Q r'!=f(X,$t)~&~q12 7))."
	l, _, _ := token.Cut(text)
	for _, gap := range gaps() {
		again(t, l, func() string { return gap })
		again(t, l, func() string { return gap + gap })
		if got := unplaced(collect(strings.ReplaceAll(text, ",", gap+","+gap))); !slices.Equal(got, unplaced(l)) {
			t.Errorf("%q: %v", gap, got)
		}
	}
}
