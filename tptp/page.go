package tptp

import (
	"syllogism/api"
	"syllogism/formula"
	"syllogism/token"
)

// The words with which items begin.
const (
	fofItem     = "fof"
	cnfItem     = "cnf"
	includeItem = "include"
)

// fault is what reading leaves by, from however many texts within one another.
type fault struct {
	at api.Spot
	e  api.Errno
}

// page is one text that is read: the problem's own, or a file's. Token by token it leaves at the first that can't stand there.
type page struct {
	cursor[api.Token]
	file int
}

func begin(text string, file int) *page {
	p := &page{file: file}
	l, at, e := token.Cut(text)
	if e != api.OK {
		p.leave(at, e)
	}
	p.list = l
	return p
}

func (p *page) leave(at int, e api.Errno) {
	panic(fault{at: api.Spot{File: p.file, At: at}, e: e})
}

func (p *page) need(may func(api.Token) bool) api.Token {
	t := p.here()
	if !p.take(may) {
		p.leave(t.At, api.ErrItem)
	}
	return t
}

func (p *page) signs(texts ...string) {
	for _, s := range texts {
		p.need(sign(s))
	}
}

func (p *page) names() []api.Token {
	l := []api.Token{p.need(named)}
	for p.take(sign(",")) {
		l = append(l, p.need(named))
	}
	return l
}

// role is told to be none behind the comma: one that is missing is told ahead of it.
func (p *page) role(cnf bool) string {
	t := p.need(lower)
	p.signs(",")
	if !roleFits(t.Text, cnf) {
		p.leave(t.At, api.ErrRole)
	}
	return t.Text
}

func (p *page) formula() api.Form {
	f, next, e := formula.Read(p.list, p.at)
	if e != api.OK {
		p.leave(p.list[next].At, e)
	}
	p.at = next
	return f
}

func sign(text string) func(api.Token) bool {
	return func(t api.Token) bool { return t.Kind == api.TokSign && t.Text == text }
}

func lower(t api.Token) bool { return t.Kind == api.TokLower }

func quoted(t api.Token) bool { return t.Kind == api.TokQuoted }

func end(t api.Token) bool { return t.Kind == api.TokEnd }

func item(t api.Token) bool {
	return lower(t) && (t.Text == fofItem || t.Text == cnfItem || t.Text == includeItem)
}

func named(t api.Token) bool {
	return lower(t) || t.Kind == api.TokNumber || quoted(t) && token.Name(t.Text)
}
