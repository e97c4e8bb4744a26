package token

import (
	"strings"

	"syllogism/api"
)

// signs stand by their lengths, the longest ahead: so none is taken for one that it only begins with.
var signs = [...]string{
	"<=>", "<~>",
	"=>", "<=", "~|", "~&", "!=",
	"(", ")", "[", "]", ",", ".", ":", "&", "|", "~", "=", "!", "?",
}

// read is the token at a place where no blank and no remark stands. Its text is a copy, since a piece of the text would keep all of it.
func read(text string, at int) (api.Token, api.Errno) {
	kind, own := first(text[at:])
	switch {
	case kind == 0:
		return api.Token{}, api.ErrToken
	case kind != api.TokSign && len(own) > api.MaxName:
		return api.Token{}, api.ErrLong
	}
	return api.Token{Kind: kind, Text: strings.Clone(own), At: at}, api.OK
}

// behind is the place behind a token: its text is without the quotes.
func behind(t api.Token) int {
	if t.Kind == api.TokQuoted {
		return t.At + len(t.Text) + 2
	}
	return t.At + len(t.Text)
}

// first is which token the rest of a text begins with, and that token's text; 0 if it is none.
func first(rest string) (kind int, own string) {
	switch {
	case rest == "":
		return api.TokEnd, ""
	case small(rest[0]):
		return api.TokLower, run(rest, wordByte)
	case great(rest[0]):
		return api.TokUpper, run(rest, wordByte)
	case digit(rest[0]):
		return api.TokNumber, run(rest, digit)
	case rest[0] == '$':
		return dollar(rest)
	case rest[0] == '\'':
		return quoted(rest)
	}
	return sign(rest)
}

func dollar(rest string) (kind int, own string) {
	word := run(rest[1:], wordByte)
	if word == "" || !small(word[0]) {
		return 0, ""
	}
	return api.TokDollar, rest[:1+len(word)]
}

func quoted(rest string) (kind int, own string) {
	inside := run(rest[1:], quotable)
	if inside == "" || !strings.HasPrefix(rest[1+len(inside):], "'") {
		return 0, ""
	}
	return api.TokQuoted, inside
}

func sign(rest string) (kind int, own string) {
	for _, s := range signs {
		if strings.HasPrefix(rest, s) {
			return api.TokSign, s
		}
	}
	return 0, ""
}
