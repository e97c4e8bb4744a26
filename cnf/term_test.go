package cnf_test

import (
	"fmt"
	"slices"
	"strings"
	"testing"

	"syllogism/api"
	"syllogism/cnf"
	"syllogism/sign"
)

// over has symbols whose names stand there more than once.
func over() api.Sig { return signature("f2 a0 p1p q0p g6 f1 f0 f1p X0 X1") }

func TestTerm(t *testing.T) {
	sig, vars := over(), []string{"Y", "X", "Z"}
	for _, x := range []struct {
		x    api.Expr
		want string
	}{
		{v("Y"), "X0"}, {v("X"), "X1"}, {v("Z"), "X2"}, {of("a"), "a"}, {of("f", of("a"), v("Z")), "f(a,X2)"},
		{of("f", of("f", v("X"), v("Y")), of("f", v("X"), of("f", of("a")))), "f(f(X1,X0),f(X1,f(a)))"},
		{of("g", many(6, v("Z"))...), "g(X2,X2,X2,X2,X2,X2)"}, {of("f"), "f"}, {of("X"), "X"}, {of("X", of("X")), "X(X)"}, {of("X", v("X")), "X(X1)"},
	} {
		finds(t, sig, x.x, vars, false, x.want)
	}
	for _, x := range []struct {
		x    api.Expr
		want string
	}{
		{of("q"), "q"}, {of("p", of("a")), "p(a)"}, {of("p", of("f", v("Y"), v("Y"))), "p(f(X0,X0))"}, {of("f", of("f")), "f(f)"}, {of("f", of("f", of("f", of("f")))), "f(f(f(f)))"},
	} {
		finds(t, sig, x.x, vars, true, x.want)
	}
	// one name, several symbols
	for _, x := range []struct {
		x    api.Expr
		pred bool
		fun  int
	}{{of("f", of("f")), true, 8}, {of("f", of("f")), false, 6}, {of("f"), false, 7}, {of("f", of("f"), of("a")), false, 1}, {of("X"), false, 9}, {of("X", of("f", v("X"))), false, 10}} {
		got, e := cnf.Term(sig, x.x, vars, x.pred)
		if got.Fun != x.fun || len(got.Args) != len(x.x.Args) || e != api.OK {
			t.Error(showExpr(x.x), x.pred, got, e)
		}
		for _, y := range got.Args {
			if y.Fun == 8 {
				t.Error(showExpr(x.x), got)
			}
		}
	}
	// a variable has no symbol: it is told with pred as without
	finds(t, sig, v("X"), vars, true, "X1")
	lacks(t, sig, v("W"), vars, true, api.ErrNone)
	// $true's signature alone
	finds(t, sign.New(), v("X"), []string{"X"}, false, "X0")
	lacks(t, sign.New(), of("a"), nil, false, api.ErrNone)
	lacks(t, sign.New(), of("$true"), nil, true, api.ErrArg)
}

func TestTermsThatAreNotThere(t *testing.T) {
	sig, vars := over(), []string{"Y", "X"}
	for _, x := range []api.Expr{of("b"), of("p"), of("f", v("X"), v("X"), v("X")), of("a", of("a")), of("q"), of("p", of("a")), of("F"), v("Z"), v("Y0"), of("Y"), of("f", of("q"), of("a")), of("f", of("a"), of("p", of("a"))), of("f", v("X"), v("Z")), of("g", many(5, of("a"))...), of("x")} {
		lacks(t, sig, x, vars, false, api.ErrNone)
		for _, y := range []api.Expr{of("f", x, of("a")), of("f", of("a"), x), deep(20, x), of("g", of("a"), v("X"), v("X"), x, v("Y"), of("f"))} {
			lacks(t, sig, y, vars, false, api.ErrNone)
			lacks(t, sig, of("p", y), vars, true, api.ErrNone)
			lacks(t, sig, of("f", y), vars, true, api.ErrNone)
		}
	}
	for _, x := range []api.Expr{of("a"), of("f"), of("f", of("a"), of("a")), of("p"), of("p", of("a"), of("a")), of("q", of("a")), of("g", many(6, of("a"))...), of("X"), v("Z"), of("p", of("p", of("a"))), of("p", of("q")), of("f", of("q"))} {
		lacks(t, sig, x, vars, true, api.ErrNone)
	}
	for _, none := range [][]string{nil, {}, {"Z"}, {""}, {"x"}, {"X "}} {
		lacks(t, sig, v("X"), none, false, api.ErrNone)
		lacks(t, sig, of("p", v("X")), none, true, api.ErrNone)
		finds(t, sig, of("a"), none, false, "a")
	}
}

func TestSignaturesOfTerm(t *testing.T) {
	good, a := over(), of("a")
	for name, sig := range map[string]api.Sig{
		"zero": {}, "empty": {Syms: []api.Sym{}}, "without $true": {Syms: good.Syms[1:]}, "with one twice": {Syms: append(slices.Clone(good.Syms), good.Syms[2])}, "with $true twice": {Syms: append(slices.Clone(good.Syms), good.Syms[0])},
		"with a name that is none": {Syms: append(slices.Clone(good.Syms), api.Sym{Name: "a-b"})}, "with too many arguments": {Syms: append(slices.Clone(good.Syms), api.Sym{Name: "b", Arity: 7})}, "with too few": {Syms: append(slices.Clone(good.Syms), api.Sym{Name: "b", Arity: -1})},
		"too long": {Syms: append(slices.Clone(good.Syms), each(86, func(i int) api.Sym { return api.Sym{Name: fmt.Sprint("c", i)} })...)},
	} {
		for _, x := range []api.Expr{a, of("none"), v("X"), {}, of("p", a)} {
			for _, vars := range [][]string{nil, {"X"}, {"X", "X"}} {
				got, e := cnf.Term(sig, x, vars, true)
				other, f := cnf.Term(sig, x, vars, false)
				if e != api.ErrArg || f != api.ErrArg || got.Fun+other.Fun != 0 || got.Args != nil || other.Args != nil {
					t.Error(name, showExpr(x), got, e, other, f)
				}
			}
		}
	}
	full := api.Sig{Syms: append(slices.Clone(good.Syms), each(85, func(i int) api.Sym { return api.Sym{Name: fmt.Sprint("c", i)} })...)}
	finds(t, full, of("f", of("c0"), of("c84")), nil, false, "f(c0,c84)")
}

func TestVarsOfTerm(t *testing.T) {
	sig := over()
	names := each(49, func(i int) string { return fmt.Sprint("V", i) })
	for i := range 48 {
		finds(t, sig, v(names[i]), names[:48], false, fmt.Sprint("X", i))
		finds(t, sig, of("p", of("f", v(names[i]), v(names[47-i]))), names[:48], true, fmt.Sprintf("p(f(X%d,X%d))", i, 47-i))
	}
	lacks(t, sig, v("V48"), names[:48], false, api.ErrNone)
	for _, x := range []api.Expr{v("V0"), of("a"), of("none"), {}} {
		lacks(t, sig, x, names, false, api.ErrArg)
		lacks(t, sig, x, names, true, api.ErrArg)
		lacks(t, sig, x, many(1000, "V"), false, api.ErrArg)
		for _, twice := range [][]string{{"V0", "V0"}, {"V0", "V1", "V2", "V1"}, {"", ""}, {"V", "W", "", "X", ""}, {"V1", "V0", "x", "y", "V0"}, append(names[:47:47], "V46"), append(names[:47:47], "V0")} {
			lacks(t, sig, x, twice, false, api.ErrArg)
		}
	}
	// of what the names are nothing is said
	finds(t, sig, v("X"), []string{"", "x", "a", "f", "$true", "X X", "X"}, false, "X6")
}

// strangers are terms that may not be.
func strangers() []api.Expr {
	long := strings.Repeat("N", 41)
	return []api.Expr{
		{}, of("a-b"), of("$true"), of("a b"), of("é"), of(" a"), of("a\n"), of(long), of("f", many(7, of("a"))...), of("g", many(20, v("X"))...),
		v(""), v("x"), v("_X"), v("1"), v("X-"), v("X Y"), v("X,Y"), v(" X"), v("X%"), v(long), v("É"), {Var: true, Name: "X", Args: []api.Expr{of("a")}}, {Var: true, Name: "X", Args: many(7, of("a"))}, {Args: []api.Expr{of("a")}}, {Var: true},
	}
}

func TestTermsThatMayNotBe(t *testing.T) {
	sig, vars := over(), []string{"Y", "X"}
	for _, x := range strangers() {
		for _, y := range []api.Expr{x, of("f", x, of("a")), of("f", v("X"), x), deep(29, x), of("g", of("a"), v("X"), v("X"), v("Y"), of("f"), of("f", of("f"), x)), of("none", x), of("f", of("none"), x), of("f", x, of("none")), of("f", v("Z"), x), of("p", of("p", x)), of("f", wide(many(300, of("a"))), x), of("f", x, wide(many(300, of("none"))))} {
			lacks(t, sig, y, append(vars, y.Name+"0", "Z0"), false, api.ErrArg)
			lacks(t, sig, y, vars, true, api.ErrArg)
		}
	}
	// the longest names
	long := strings.Repeat("N", 40)
	finds(t, sig, v(long), []string{"X", long}, false, "X1")
	lacks(t, sig, of(long), vars, false, api.ErrNone)
	finds(t, api.Sig{Syms: append(sig.Syms, api.Sym{Name: long})}, of("f", of(long)), vars, false, "f("+long+")")
}

func TestDepthsOfTerm(t *testing.T) {
	sig, vars := over(), []string{"X"}
	for n := 27; n < 34; n++ {
		for _, x := range []api.Expr{of("a"), v("X"), of("f", of("f"), of("X"))} {
			d := n
			if len(x.Args) > 0 {
				d = n - 1
			}
			// a predicate on top is one of them
			one, two := deep(d, x), of("f", of("f", of("a")), deep(d-1, x))
			top := of("p", deep(d-1, x))
			for _, y := range []api.Expr{one, two} {
				if n > 30 {
					lacks(t, sig, y, vars, false, api.ErrArg)
				} else if _, e := cnf.Term(sig, y, vars, false); e != api.OK {
					t.Error(n, e)
				}
			}
			if n > 30 {
				lacks(t, sig, top, vars, true, api.ErrArg)
			} else if _, e := cnf.Term(sig, top, vars, true); e != api.OK {
				t.Error(n, e)
			}
		}
	}
	lacks(t, sig, of("none", deep(30, of("a"))), vars, false, api.ErrArg)
	lacks(t, sig, deep(29, of("f", of("a"), of("none"))), vars, false, api.ErrNone)
}

func TestSizesOfTerm(t *testing.T) {
	sig, vars := signature("f2 a0 p1p h6 h1 h2 h3 h4 h5 f1"), []string{"X"}
	size := 0
	var count func(x api.Expr)
	count = func(x api.Expr) {
		size++
		for _, y := range x.Args {
			count(y)
		}
	}
	for n := 200; n < 320; n++ {
		x := wide(slices.Repeat([]api.Expr{of("a"), v("X"), of("f", of("a"))}, n/3+1)[:n])
		size = 0
		count(x)
		for _, pred := range []bool{false, true} {
			y, s := x, size
			if pred {
				y, s = of("p", x), size+1
			}
			if s > 300 {
				lacks(t, sig, y, vars, pred, api.ErrLong)
				lacks(t, sig, y, nil, pred, api.ErrNone)
				lacks(t, sig, of("f", y, of("f", of("none"))), vars, pred, api.ErrNone)
				lacks(t, sig, of("f", y, v("x")), vars, pred, api.ErrArg)
			} else if got, e := cnf.Term(sig, y, vars, pred); e != api.OK || len(got.Args) == 0 {
				t.Error(n, s, e)
			}
		}
	}
	// just as many, and one more
	for more := range 9 {
		x := of("f", wide(many(36, deep(8, of("a")))), deep(more+1, of("a")))
		if size := 1 + 7 + 36*8 + more + 1; size > 300 {
			lacks(t, sig, x, vars, false, api.ErrLong)
		} else if _, e := cnf.Term(sig, x, vars, false); e != api.OK {
			t.Error(size, e)
		}
	}
}
