package formula

import (
	"strings"

	"syllogism/api"
	"syllogism/token"
)

// formText asks of a formula that may be; so do all here.
func formText(f api.Form) string {
	switch k := kinds[f.Op]; {
	case k.word != "":
		return k.word
	case k.between != "":
		return strings.Join(texts(f.Args, unit), k.between)
	case k.ahead != "":
		return k.ahead + strings.Join(f.Vars, ",") + "] : " + unit(f.Args[0])
	case f.Op == api.FormNot:
		return denied(f.Args[0])
	}
	return strings.Join(texts(f.Terms, exprText), " = ")
}

// denied is Not of a formula.
func denied(f api.Form) string {
	if f.Op == api.FormEq {
		return strings.Join(texts(f.Terms, exprText), " != ")
	}
	return "~ " + unit(f)
}

func unit(f api.Form) string {
	if kinds[f.Op].between != "" {
		return "(" + formText(f) + ")"
	}
	return formText(f)
}

func exprText(x api.Expr) string {
	if x.Var {
		return x.Name
	}
	name, _ := token.Quote(x.Name)
	if len(x.Args) == 0 {
		return name
	}
	return name + "(" + strings.Join(texts(x.Args, exprText), ",") + ")"
}

func texts[E any](l []E, text func(E) string) []string {
	out := make([]string, len(l))
	for i, x := range l {
		out[i] = text(x)
	}
	return out
}
