package formula

import (
	"syllogism/api"
	"syllogism/token"
)

// cursor reads a formula, token by token. Its methods leave at the first token that can't stand there, and the cursor stays at it.
type cursor struct {
	tokens []api.Token
	at     int
}

// wrong is what the methods leave by.
type wrong struct{}

// whole is false, if a method left.
func (c *cursor) whole() (f api.Form, ok bool) {
	defer func() {
		if recover() != nil {
			f, ok = api.Form{}, false
		}
	}()
	return c.formula(), true
}

func (c *cursor) leave() { panic(wrong{}) }

// peek is the zero token, which is of no kind, behind the last one.
func (c *cursor) peek() api.Token {
	if c.at >= len(c.tokens) {
		return api.Token{}
	}
	return c.tokens[c.at]
}

// take goes behind the token, if it is that one.
func (c *cursor) take(kind int, text string) bool {
	t := c.peek()
	if t.Kind != kind || t.Text != text {
		return false
	}
	c.at++
	return true
}

func (c *cursor) sign(text string) bool { return c.take(api.TokSign, text) }

func (c *cursor) need(text string) {
	if !c.sign(text) {
		c.leave()
	}
}

func (c *cursor) formula() api.Form {
	f := c.unit()
	switch {
	case c.sign("&"):
		return c.row(api.FormAnd, f, "&")
	case c.sign("|"):
		return c.row(api.FormOr, f, "|")
	case c.sign("=>"):
		return joined(api.FormImplies, f, c.unit())
	case c.sign("<="):
		return joined(api.FormImplies, c.unit(), f)
	case c.sign("<=>"):
		return joined(api.FormIff, f, c.unit())
	case c.sign("<~>"):
		return joined(api.FormXor, f, c.unit())
	case c.sign("~|"):
		return not(joined(api.FormOr, f, c.unit()))
	case c.sign("~&"):
		return not(joined(api.FormAnd, f, c.unit()))
	}
	return f
}

// row goes on behind the first unit and the first sign.
func (c *cursor) row(op api.FormOp, first api.Form, sign string) api.Form {
	l := []api.Form{first, c.unit()}
	for c.sign(sign) {
		l = append(l, c.unit())
	}
	return joined(op, l...)
}

func (c *cursor) unit() api.Form {
	switch {
	case c.sign("~"):
		return not(c.unit())
	case c.sign("!"):
		return c.quantified(api.FormAll)
	case c.sign("?"):
		return c.quantified(api.FormSome)
	case c.sign("("):
		f := c.formula()
		c.need(")")
		return f
	case c.take(api.TokDollar, kinds[api.FormTrue].word):
		return api.Form{Op: api.FormTrue}
	case c.take(api.TokDollar, kinds[api.FormFalse].word):
		return api.Form{Op: api.FormFalse}
	}
	return c.statement()
}

func (c *cursor) quantified(op api.FormOp) api.Form {
	c.need("[")
	vars := listed(c, c.variable)
	c.need("]")
	c.need(":")
	return api.Form{Op: op, Vars: vars, Args: []api.Form{c.unit()}}
}

// statement begins with a term. That a variable alone is none is seen at the token behind it.
func (c *cursor) statement() api.Form {
	t := c.term()
	switch {
	case c.sign("="):
		return equation(t, c.term())
	case c.sign("!="):
		return not(equation(t, c.term()))
	case t.Var:
		c.leave()
	}
	return api.Form{Op: api.FormAtom, Terms: []api.Expr{t}}
}

func (c *cursor) term() api.Expr {
	t := c.peek()
	if t.Kind == api.TokUpper {
		return api.Expr{Var: true, Name: c.variable()}
	}
	if t.Kind != api.TokLower && (t.Kind != api.TokQuoted || !token.Name(t.Text)) {
		c.leave()
	}
	c.at++
	if !c.sign("(") {
		return api.Expr{Name: t.Text}
	}
	args := listed(c, c.term)
	c.need(")")
	return api.Expr{Name: t.Text, Args: args}
}

func (c *cursor) variable() string {
	t := c.peek()
	if t.Kind != api.TokUpper {
		c.leave()
	}
	c.at++
	return t.Text
}

func listed[E any](c *cursor, one func() E) []E {
	l := []E{one()}
	for c.sign(",") {
		l = append(l, one())
	}
	return l
}

func joined(op api.FormOp, l ...api.Form) api.Form { return api.Form{Op: op, Args: l} }

func not(f api.Form) api.Form { return joined(api.FormNot, f) }

func equation(l, r api.Expr) api.Form {
	return api.Form{Op: api.FormEq, Terms: []api.Expr{l, r}}
}
