package term_test

import (
	"cmp"
	"fmt"
	"maps"
	"math"
	"slices"
	"strings"
	"testing"

	"syllogism/api"
	"syllogism/term"
)

const (
	a = 1
	f = 2
	p = 3
)

// sig is the signature of the chapter's examples.
func sig() api.Sig {
	return api.Sig{Syms: []api.Sym{{Name: "$true", Pred: true}, {Name: "a"}, {Name: "f", Arity: 2}, {Name: "p", Arity: 1, Pred: true}}}
}

func of(n int, args ...api.Term) api.Term { return api.Term{Fun: n, Args: args} }
func x(k int, args ...api.Term) api.Term  { return api.Term{Fun: -1 - k, Args: args} }

// show writes a term by its numbers, so that two are the same just if what is shown is.
func show(t api.Term) string {
	s := fmt.Sprint(t.Fun, "(")
	for _, c := range t.Args {
		s += show(c)
	}
	return s + ")"
}

// small is all terms with these heads, whatever their arguments, of at most size symbols and variables.
func small(size int, heads ...int) []api.Term {
	var all []api.Term
	for n := 1; n <= size; n++ {
		all = append(all, sized(n, heads)...)
	}
	return all
}

func sized(n int, heads []int) []api.Term {
	var l []api.Term
	for _, h := range heads {
		for _, args := range rows(n-1, heads) {
			l = append(l, of(h, args...))
		}
	}
	return l
}

// rows is all lists of terms whose sizes are n together.
func rows(n int, heads []int) [][]api.Term {
	if n == 0 {
		return [][]api.Term{nil}
	}
	var l [][]api.Term
	for k := 1; k <= n; k++ {
		for _, t := range sized(k, heads) {
			for _, rest := range rows(n-k, heads) {
				l = append(l, append([]api.Term{t}, rest...))
			}
		}
	}
	return l
}

// spots is all lists of at most n numbers of arguments, some of which no term has.
func spots(n int) []api.Pos {
	l := []api.Pos{nil}
	for from := 0; n > 0; n-- {
		to := len(l)
		for _, at := range l[from:to] {
			for i := -1; i <= 3; i++ {
				l = append(l, append(slices.Clone(at), i))
			}
		}
		from = to
	}
	return l
}

// chain is n symbols in one another, with t inside.
func chain(n int, t api.Term) api.Term {
	for range n {
		t = of(4, t)
	}
	return t
}

// odd are terms that may be over no signature.
func odd() []api.Term {
	return []api.Term{x(math.MaxInt), x(48), x(0, of(a)), x(3, x(2, x(1))), of(math.MaxInt), of(96, of(a), of(a)), of(0, of(0)), of(f),
		of(a, x(1000000), of(1000000)), of(f, make([]api.Term, 1000)...), chain(100, x(7))}
}

func TestCheck(t *testing.T) {
	for i, c := range []struct {
		t  api.Term
		ok bool
	}{
		{of(a), true},
		{of(0), true},
		{api.Term{}, true},
		{api.Term{Fun: a, Args: []api.Term{}}, true},
		{x(0), true},
		{x(47), true},
		{x(48), false},
		{x(math.MaxInt), false},
		{x(0, of(a)), false},
		{of(4), false},
		{of(math.MaxInt), false},
		{of(f, of(a), x(47)), true},
		{of(f, of(a), x(48)), false},
		{of(f, of(a)), false},
		{of(f), false},
		{of(f, of(a), of(a), of(a)), false},
		{of(a, of(a)), false},
		{of(0, of(a)), false},
		{of(p, of(a)), true},
		{of(p, of(f, x(0), of(a))), true},
		{of(p), false},
		{of(p, of(p, of(a))), false},
		{of(p, of(0)), false},
		{of(f, of(0), of(a)), false},
		{of(f, of(a), of(p, of(a))), false},
		{of(f, of(p, of(a)), of(a)), false},
		{of(f, of(f, of(a), of(a)), of(f, of(4), of(a))), false},
		{of(f, of(f, x(0, x(1)), of(a)), of(a)), false},
	} {
		want := api.OK
		if !c.ok {
			want = api.ErrArg
		}
		if e := term.Check(sig(), c.t); e != want {
			t.Error(i, e)
		}
	}
}

func TestCheckOfSignaturesThatMayNotBe(t *testing.T) {
	long := sig()
	for i := range 93 {
		long.Syms = append(long.Syms, api.Sym{Name: fmt.Sprint("c", i)})
	}
	for i, s := range []api.Sig{
		{},
		{Syms: sig().Syms[1:]},
		{Syms: append(sig().Syms, api.Sym{Name: "f", Arity: 2})},
		{Syms: append(sig().Syms, api.Sym{Name: "g", Arity: 7})},
		{Syms: append(sig().Syms, api.Sym{Name: "g-h"})},
		{Syms: append(sig().Syms, api.Sym{})},
		{Syms: make([]api.Sym, 1000)},
		long,
	} {
		for _, c := range append(odd(), of(a), x(0), of(f, of(a), x(0)), of(0)) {
			told, err := term.Text(s, c)
			if e := term.Check(s, c); e != api.ErrArg || err != api.ErrArg || told != "" {
				t.Error(i, e, told, err)
			}
		}
	}
	long.Syms = long.Syms[:api.MaxSyms]
	for i := range 98 {
		want := api.OK
		if i == f || i == p || i > 95 {
			want = api.ErrArg
		}
		if e := term.Check(long, of(i)); e != want {
			t.Error(i, e)
		}
	}
}

func TestCheckOfOddTerms(t *testing.T) {
	for i, c := range odd() {
		told, err := term.Text(sig(), c)
		if e := term.Check(sig(), c); e != api.ErrArg || err != api.ErrArg || told != "" {
			t.Error(i, e, told, err)
		}
	}
}

// full is a signature with a symbol of each arity, and a predicate of each but 0.
func full() api.Sig {
	s := api.Sig{Syms: []api.Sym{{Name: "$true", Pred: true}}}
	for n := range 7 {
		s.Syms = append(s.Syms, api.Sym{Name: "f", Arity: n})
	}
	for n := range 6 {
		s.Syms = append(s.Syms, api.Sym{Name: "f", Arity: n + 1, Pred: true})
	}
	return s
}

// wide has n symbols and variables below a top of two arguments, at most 9 deep.
func wide(n int) api.Term {
	if n == 1 {
		return x(n)
	}
	if n == 2 {
		return of(2, of(1))
	}
	return of(3, wide((n-1)/2), wide(n-1-(n-1)/2))
}

// wanted is OK up to a limit, ErrArg above it.
func wanted(n, limit int) api.Errno {
	if n > limit {
		return api.ErrArg
	}
	return api.OK
}

func TestCheckOfSize(t *testing.T) {
	for n := 1; n < 700; n++ {
		c := wide(n)
		if e := term.Check(full(), c); e != wanted(n, 300) || term.Size(c) != n {
			t.Error(n, e, term.Size(c))
		}
		flat := of(7, wide(1), wide(1), wide(1), wide(1), wide(1), c)
		if e := term.Check(full(), flat); e != wanted(n+6, 300) {
			t.Error(n+6, e)
		}
	}
}

func TestCheckOfDepth(t *testing.T) {
	for n := 2; n < 100; n++ {
		for _, c := range []api.Term{of(1), x(5)} {
			for range n - 2 {
				c = of(2, c)
			}
			for _, top := range []api.Term{of(2, c), of(3, of(1), c), of(3, c, of(1)), of(8, c)} {
				if e := term.Check(full(), top); e != wanted(n, 30) || term.Depth(top) != n {
					t.Error(n, e, term.Depth(top))
				}
			}
		}
	}
}

// may says what the chapter says, for terms over the signature of its examples, too small for the limits.
func may(t api.Term, top bool) bool {
	arity, ok := map[int]int{-1: 0, -48: 0, a: 0, f: 2}[t.Fun]
	if top && t.Fun == 0 {
		arity, ok = 0, true
	}
	if top && t.Fun == p {
		arity, ok = 1, true
	}
	for _, c := range t.Args {
		ok = ok && may(c, false)
	}
	return ok && len(t.Args) == arity
}

func TestCheckOfAllSmallTerms(t *testing.T) {
	for _, c := range small(4, -49, -48, -1, 0, a, f, p, 4) {
		want := api.ErrArg
		if may(c, true) {
			want = api.OK
		}
		if e := term.Check(sig(), c); e != want {
			t.Error(show(c), e)
		}
	}
}

func TestSame(t *testing.T) {
	l := small(4, -2, -1, 0, 1)
	l = append(l, of(f, x(0)), x(math.MaxInt), of(math.MaxInt), x(math.MaxInt-1), chain(1000, of(a)), chain(1000, of(0)), chain(1001, of(a)))
	for i, c := range l {
		for j, d := range l {
			if term.Same(c, d) != (i == j) {
				t.Fatal(show(c), show(d))
			}
		}
	}
	if !term.Same(of(a), api.Term{Fun: a, Args: []api.Term{}}) || !term.Same(of(f, of(a), x(1)), of(f, of(a), x(1))) {
		t.Error("the same in other memory")
	}
}

func TestCompare(t *testing.T) {
	for i, c := range []struct {
		a, b api.Term
		n    int
	}{
		{x(0), x(1), -1},
		{x(9), of(a), -1},
		{of(f, of(a), x(0)), of(f, of(a), of(a)), -1},
		{x(0), of(0), -1},
		{x(47), of(0), -1},
		{x(math.MaxInt), of(0), -1},
		{x(math.MaxInt), x(0), 1},
		{x(math.MaxInt), x(math.MaxInt - 1), 1},
		{of(math.MaxInt), x(math.MaxInt), 1},
		{of(math.MaxInt), of(0), 1},
		{of(f), of(p), -1},
		{of(f, of(p)), of(p, of(a)), -1},
		{of(f, of(a), of(a), of(a)), of(p), -1},
		{of(f, of(a)), of(f), 1},
		{of(f, of(a)), of(f, of(a), x(0)), -1},
		{of(f, of(p)), of(f, of(a), of(a)), 1},
		{of(f, of(a, of(a)), of(a)), of(f, of(a), of(p)), 1},
		{of(f, x(1), x(0)), of(f, x(0), x(1)), 1},
		{x(0, of(a)), x(0), 1},
		{x(0, of(a)), x(1), -1},
		{x(0, of(a)), x(0, of(f)), -1},
		{x(1, x(0)), x(1, x(0), x(0)), -1},
		{chain(1000, x(0)), chain(1000, x(1)), -1},
		{chain(1000, of(3)), chain(1001, of(3)), -1},
		{chain(1000, of(5)), chain(1001, of(5)), 1},
	} {
		if n := term.Compare(c.a, c.b); n != c.n {
			t.Error(i, n)
		}
		if n := term.Compare(c.b, c.a); n != -c.n {
			t.Error(i, "turned round", n)
		}
	}
}

// keys is a term as it is read, with an end, ahead of all else, behind each one's arguments: so Compare is to go by them.
func keys(t api.Term) [][2]int {
	k := [2]int{2, t.Fun}
	if t.Fun < 0 {
		k = [2]int{1, -1 - t.Fun}
	}
	l := [][2]int{k}
	for _, c := range t.Args {
		l = append(l, keys(c)...)
	}
	return append(l, [2]int{})
}

// P2.6: an order of all terms, of those of which each has its place in a list that is ordered.
func TestCompareIsAnOrder(t *testing.T) {
	l := small(4, math.MinInt, -3, -1, 0, math.MaxInt)
	l = append(l, of(1, of(1), of(1), of(1), of(1)), of(1, of(1), of(1), of(1), of(1), x(1)))
	read := map[string][][2]int{}
	for _, c := range l {
		read[show(c)] = keys(c)
	}
	slices.SortFunc(l, func(c, d api.Term) int {
		return slices.CompareFunc(read[show(c)], read[show(d)], func(k, m [2]int) int {
			return cmp.Or(cmp.Compare(k[0], m[0]), cmp.Compare(k[1], m[1]))
		})
	})
	for i, c := range l {
		for j, d := range l {
			if n := term.Compare(c, d); n != cmp.Compare(i, j) {
				t.Fatal(show(c), show(d), n)
			}
		}
	}
}

func TestSizeDepthGroundVars(t *testing.T) {
	for i, c := range []struct {
		t           api.Term
		size, depth int
		vars        []int
	}{
		{of(f, x(1), of(f, of(a), x(0))), 5, 3, []int{0, 1}},
		{api.Term{}, 1, 1, nil},
		{of(a), 1, 1, nil},
		{api.Term{Fun: a, Args: []api.Term{}}, 1, 1, nil},
		{x(0), 1, 1, []int{0}},
		{x(47), 1, 1, []int{47}},
		{x(math.MaxInt), 1, 1, []int{math.MaxInt}},
		{x(3, x(5), x(3, x(1))), 4, 3, []int{1, 3, 5}},
		{x(2, of(a)), 2, 2, []int{2}},
		{of(-7, of(math.MaxInt, of(math.MinInt))), 3, 3, []int{6, math.MaxInt}},
		{of(f, of(f, of(f, of(a), of(a)), of(a)), of(a)), 7, 4, nil},
		{of(f, of(a), of(f, of(a), of(f, of(a), of(a)))), 7, 4, nil},
		{of(f, x(9), of(f, x(10), of(f, x(9), x(8)))), 7, 4, []int{8, 9, 10}},
		{of(96, make([]api.Term, 1000)...), 1001, 2, nil},
		{of(1, append(make([]api.Term, 1000), x(7))...), 1002, 2, []int{7}},
		{chain(1000, x(7)), 1001, 1001, []int{7}},
		{of(f, chain(10, x(7)), chain(20, x(7)), chain(15, x(7))), 49, 22, []int{7}},
	} {
		if n := term.Size(c.t); n != c.size {
			t.Error(i, "size", n)
		}
		if n := term.Depth(c.t); n != c.depth {
			t.Error(i, "depth", n)
		}
		if l := term.Vars(c.t); !slices.Equal(l, c.vars) {
			t.Error(i, "vars", l)
		}
		if term.Ground(c.t) != (len(c.vars) == 0) {
			t.Error(i, "ground")
		}
	}
}

// height, weight and letters count once more, each in its own way.
func height(t api.Term) int {
	n := 0
	for _, c := range t.Args {
		n = max(n, height(c))
	}
	return n + 1
}

func weight(t api.Term) int { return strings.Count(show(t), "(") }

func letters(t api.Term) []int {
	set := map[int]bool{}
	var look func(api.Term)
	look = func(t api.Term) {
		if t.Fun < 0 {
			set[-1-t.Fun] = true
		}
		for _, c := range t.Args {
			look(c)
		}
	}
	look(t)
	return slices.Sorted(maps.Keys(set))
}

func TestMeasuresOfAllSmallTerms(t *testing.T) {
	for _, c := range small(5, -3, -1, 0, 2) {
		if term.Size(c) != weight(c) || term.Depth(c) != height(c) || !slices.Equal(term.Vars(c), letters(c)) || term.Ground(c) != (len(letters(c)) == 0) {
			t.Fatal(show(c), term.Size(c), term.Depth(c), term.Vars(c), term.Ground(c))
		}
	}
}

func TestAt(t *testing.T) {
	c := of(f, of(a), x(0))
	deep := of(f, x(1, of(a)), of(f, of(p, x(2)), of(a)))
	for i, q := range []struct {
		t    api.Term
		p    api.Pos
		want api.Term
		ok   bool
	}{
		{c, api.Pos{1}, x(0), true},
		{c, api.Pos{2}, api.Term{}, false},
		{c, nil, c, true},
		{c, api.Pos{}, c, true},
		{c, api.Pos{0}, of(a), true},
		{c, api.Pos{-1}, api.Term{}, false},
		{c, api.Pos{math.MaxInt}, api.Term{}, false},
		{c, api.Pos{math.MinInt}, api.Term{}, false},
		{c, api.Pos{0, 0}, api.Term{}, false},
		{c, api.Pos{1, 0}, api.Term{}, false},
		{c, api.Pos{2, 0}, api.Term{}, false},
		{deep, api.Pos{0, 0}, of(a), true},
		{deep, api.Pos{1, 0}, of(p, x(2)), true},
		{deep, api.Pos{1, 0, 0}, x(2), true},
		{deep, api.Pos{1, 0, 1}, api.Term{}, false},
		{deep, api.Pos{1, 0, 0, 0}, api.Term{}, false},
		{deep, api.Pos{0, 1}, api.Term{}, false},
		{deep, make(api.Pos, 10000), api.Term{}, false},
		{chain(1000, x(7)), make(api.Pos, 1000), x(7), true},
		{chain(1000, x(7)), make(api.Pos, 1001), api.Term{}, false},
		{x(5), nil, x(5), true},
		{api.Term{}, nil, api.Term{}, true},
		{api.Term{}, api.Pos{0}, api.Term{}, false},
	} {
		if s, ok := term.At(q.t, q.p); show(s) != show(q.want) || ok != q.ok {
			t.Error(i, show(s), ok)
		}
	}
}

func TestPut(t *testing.T) {
	c := of(f, of(a), x(0))
	for i, q := range []struct {
		t       api.Term
		p       api.Pos
		s, want api.Term
		ok      bool
	}{
		{c, api.Pos{0}, x(3), of(f, x(3), x(0)), true},
		{c, api.Pos{1}, x(3), of(f, of(a), x(3)), true},
		{c, nil, x(3), x(3), true},
		{c, api.Pos{}, x(3), x(3), true},
		{c, api.Pos{1}, c, of(f, of(a), c), true},
		{c, api.Pos{2}, x(3), api.Term{}, false},
		{c, api.Pos{-1}, x(3), api.Term{}, false},
		{c, api.Pos{0, 0}, x(3), api.Term{}, false},
		{of(f, c, c), api.Pos{0, 1}, c, of(f, of(f, of(a), c), c), true},
		{of(f, c, c), api.Pos{1, 0}, of(math.MaxInt, x(math.MaxInt)), of(f, c, of(f, of(math.MaxInt, x(math.MaxInt)), x(0))), true},
		{x(1, of(a)), api.Pos{0}, x(2, x(3)), x(1, x(2, x(3))), true},
		{x(1), api.Pos{0}, x(2), api.Term{}, false},
		{api.Term{}, nil, api.Term{}, api.Term{}, true},
	} {
		if s, ok := term.Put(q.t, q.p, q.s); show(s) != show(q.want) || ok != q.ok {
			t.Error(i, show(s), ok)
		}
	}
}

// listed is what Places goes over, as texts.
func listed(t api.Term) []string {
	var l []string
	for at, s := range term.Places(t) {
		l = append(l, fmt.Sprint(at, show(s)))
	}
	return l
}

func TestPlaces(t *testing.T) {
	c := of(f, of(a), x(0))
	for i, q := range []struct {
		t    api.Term
		want []string
	}{
		{c, []string{fmt.Sprint([]int{}, show(c)), fmt.Sprint([]int{0}, show(of(a))), fmt.Sprint([]int{1}, show(x(0)))}},
		{api.Term{}, []string{"[]0()"}},
		{x(math.MaxInt, x(1, of(a)), of(p)), []string{fmt.Sprint("[]", math.MinInt, "(-2(1())3())"), "[0]-2(1())", "[0 0]1()", "[1]3()"}},
		{of(5, of(6, of(7), of(8)), of(9, of(10)), of(11)), []string{"[]5(6(7()8())9(10())11())", "[0]6(7()8())", "[0 0]7()", "[0 1]8()", "[1]9(10())", "[1 0]10()", "[2]11()"}},
		{of(1, of(1), of(1), of(1), of(1), of(1), of(1), of(1), of(1), of(1), of(1), of(2)), []string{"[]1(1()1()1()1()1()1()1()1()1()1()2())",
			"[0]1()", "[1]1()", "[2]1()", "[3]1()", "[4]1()", "[5]1()", "[6]1()", "[7]1()", "[8]1()", "[9]1()", "[10]2()"}},
	} {
		if got := listed(q.t); !slices.Equal(got, q.want) {
			t.Error(i, got)
		}
	}
}

// P2.6, of all small terms, and of all places, there or not.
func TestPlacesAtPutOfAllSmallTerms(t *testing.T) {
	all := spots(4)
	for _, c := range small(4, -2, 0, 3) {
		told := map[string]string{}
		var last api.Pos
		n := 0
		for at, s := range term.Places(c) {
			if n++; n > 1 && slices.Compare(last, at) >= 0 {
				t.Fatal(show(c), "the order of places", last, at)
			}
			last = at
			told[fmt.Sprint(at)] = show(s)
			if back, ok := term.Put(c, at, s); !ok || show(back) != show(c) {
				t.Fatal(show(c), at, show(back), ok)
			}
		}
		if n != weight(c) || len(told) != n {
			t.Fatal(show(c), n)
		}
		for _, at := range all {
			want, there := told[fmt.Sprint(at)]
			held(t, c, at, want, there)
		}
	}
}

// held asks At, and Put of something new, at one place.
func held(t *testing.T, c api.Term, at api.Pos, want string, there bool) {
	t.Helper()
	s, ok := term.At(c, at)
	if ok != there || ok && show(s) != want || !ok && show(s) != "0()" {
		t.Fatal(show(c), at, show(s), ok)
	}
	put, ok := term.Put(c, at, of(9, x(9)))
	if ok != there || !ok && show(put) != "0()" {
		t.Fatal(show(c), at, show(put), ok)
	}
	if !ok {
		return
	}
	got, _ := term.At(put, at)
	back, _ := term.Put(put, at, s)
	if show(got) != "9(-10())" || show(back) != show(c) || weight(put) != weight(c)-weight(s)+2 {
		t.Fatal(show(c), at, show(put))
	}
}

func TestPlacesAreLeftAndGoneOverAgain(t *testing.T) {
	c := of(f, of(f, of(a), x(0)), of(p, x(1, of(a))))
	all := listed(c)
	it := term.Places(c)
	for stop := range len(all) + 1 {
		var got []string
		for at, s := range it {
			got = append(got, fmt.Sprint(at, show(s)))
			if len(got) > stop {
				break
			}
		}
		if !slices.Equal(got, all[:min(stop+1, len(all))]) {
			t.Error(stop, got)
		}
	}
	n := 0
	for range it {
		for at, s := range it {
			if fmt.Sprint(at, show(s)) != all[n%len(all)] {
				t.Error("two goings over at once", at)
			}
			n++
		}
	}
	if n != len(all)*len(all) {
		t.Error(n)
	}
}

// A yield that says that it is enough is not asked again, wherever in the term it says so.
func TestPlacesStop(t *testing.T) {
	c := of(f, of(f, of(a), x(0)), of(f, of(a), x(1)))
	for stop := 1; stop <= 7; stop++ {
		n := 0
		term.Places(c)(func(api.Pos, api.Term) bool {
			n++
			return n < stop
		})
		if n != stop {
			t.Error(stop, n)
		}
	}
}

func TestPlacesTellWhatThereWas(t *testing.T) {
	c := of(f, of(f, of(a), x(0)), of(f, of(a), x(1)))
	want := listed(c)
	it := term.Places(c)
	c.Args[0].Args[1] = of(9)
	c.Args[1] = x(9)
	for range 2 {
		var got []string
		var kept []api.Pos
		for at, s := range it {
			got = append(got, fmt.Sprint(at, show(s)))
			kept = append(kept, at)
			scribble(s)
			full := at[:cap(at)]
			for i := range full {
				full[i] = 77
			}
		}
		if !slices.Equal(got, want) {
			t.Error("what the caller does is seen", got)
		}
		for _, at := range kept {
			for _, i := range at {
				if i != 77 {
					t.Error("a place is written again", at)
				}
			}
		}
	}
}

// scribble writes over all of a term's memory, spare room too.
func scribble(t api.Term) {
	l := t.Args[:cap(t.Args)]
	for i := range l {
		if i < len(t.Args) {
			scribble(l[i])
		}
		l[i] = of(99)
	}
}

func TestText(t *testing.T) {
	odd := append(sig().Syms, api.Sym{Name: "X1"}, api.Sym{Name: "f"}, api.Sym{Name: "g", Arity: 3}, api.Sym{Name: "p", Arity: 1}, api.Sym{Name: "_"},
		api.Sym{Name: strings.Repeat("n", 40), Arity: 1}, api.Sym{Name: "007"})
	s := api.Sig{Syms: odd}
	for i, c := range []struct {
		t    api.Term
		want string
	}{
		{of(p, of(f, x(1), of(a))), "p(f(X1,a))"},
		{of(a), "a"},
		{api.Term{Fun: a, Args: []api.Term{}}, "a"},
		{of(0), "$true"},
		{x(0), "X0"},
		{x(10), "X10"},
		{x(47), "X47"},
		{of(4), "X1"},
		{of(f, of(4), x(1)), "f(X1,X1)"},
		{of(5), "f"},
		{of(6, of(f, of(a), x(3)), of(6, x(0), x(0), x(0)), of(5)), "g(f(a,X3),g(X0,X0,X0),f)"},
		{of(p, of(7, of(8))), "p(p(_))"},
		{of(9, of(10)), strings.Repeat("n", 40) + "(007)"},
	} {
		if got, e := term.Text(s, c.t); got != c.want || e != api.OK {
			t.Error(i, got, e)
		}
	}
	for _, c := range []api.Term{of(f, of(a)), of(f, of(p, of(a)), of(a)), of(11), x(48), x(0, of(a)), of(a, of(a)), of(p, of(0)), chain(30, of(a))} {
		if got, e := term.Text(s, c); got != "" || e != api.ErrArg {
			t.Error(show(c), got, e)
		}
	}
}

// P2.6: over one signature the texts of two terms that may be are the same just if the terms are.
func TestTextsDiffer(t *testing.T) {
	s := api.Sig{Syms: append(sig().Syms, api.Sym{Name: "X"}, api.Sym{Name: "x1"}, api.Sym{Name: "aX1", Arity: 1}, api.Sym{Name: "fa", Arity: 1}, api.Sym{Name: "X1_"}, api.Sym{Name: "Xa"})}
	seen := map[string]string{}
	for _, c := range small(4, -1, -2, -12, 0, 1, 2, 3, 4, 5, 6, 7, 8, 9) {
		got, e := term.Text(s, c)
		if e != term.Check(s, c) {
			t.Fatal(show(c), e)
		}
		if e != api.OK {
			continue
		}
		if was, ok := seen[got]; ok {
			t.Fatal(got, was, show(c))
		}
		seen[got] = show(c)
	}
	if len(seen) < 100 {
		t.Error(len(seen))
	}
}

// roomy is a term each of whose lists has spare room behind it, with something in it.
func roomy() api.Term {
	with := func(n int, args ...api.Term) api.Term {
		return api.Term{Fun: n, Args: append(args, of(70), x(70))[:len(args)]}
	}
	return with(f, with(f, with(a), x(0)), with(p, x(1)))
}

// all writes a term and what stands in the spare room of its lists.
func all(t api.Term) string {
	s := fmt.Sprint(t.Fun, "(")
	for _, c := range t.Args[:cap(t.Args)] {
		s += all(c)
	}
	return s + ")"
}

func TestNothingIsSharedOrChanged(t *testing.T) {
	c, d, at := roomy(), roomy(), append(api.Pos{0, 1}, 5, 5)[:1]
	was := all(c)
	whole, _ := term.At(c, nil)
	part, _ := term.At(c, at)
	put, _ := term.Put(c, at, d)
	own, _ := term.Put(c, api.Pos{0, 1}, c)
	top, _ := term.Put(c, nil, d)
	vars := term.Vars(c)
	_, _, _, _, _ = term.Size(c), term.Depth(c), term.Ground(c), term.Same(c, d), term.Compare(c, d)
	term.Put(c, api.Pos{7}, d)
	term.At(c, api.Pos{0, 7})
	term.Check(sig(), c)
	term.Text(sig(), c)
	for range term.Places(c) {
	}
	answers := []*api.Term{&whole, &part, &put, &own, &top}
	for i, s := range answers {
		want := make([]string, len(answers))
		for j, r := range answers {
			want[j] = show(*r)
		}
		scribble(*s)
		for j, r := range answers {
			if i != j && show(*r) != want[j] {
				t.Error("answers share memory", i, j)
			}
		}
	}
	vars[0] = 99
	if all(c) != was || all(d) != was || at[:4][2] != 5 || !slices.Equal(at, api.Pos{0}) || !slices.Equal(term.Vars(c), []int{0, 1}) {
		t.Error("what was handed in is changed", all(c), all(d), at)
	}
}

// Within an answer nothing is shared either: what is handed in once stands there twice.
func TestAnswersShareNothingWithin(t *testing.T) {
	once := []api.Term{of(a), x(0)}
	c := of(f, api.Term{Fun: f, Args: once}, api.Term{Fun: f, Args: once})
	want := show(c)
	whole, _ := term.At(c, nil)
	put, _ := term.Put(c, api.Pos{0}, api.Term{Fun: f, Args: once})
	for _, s := range []api.Term{whole, put} {
		scribble(s.Args[0])
		if show(s.Args[1]) != show(api.Term{Fun: f, Args: once}) {
			t.Error("shared within", show(s))
		}
	}
	for _, s := range term.Places(c) {
		if len(s.Args) > 0 {
			scribble(s.Args[0])
		}
	}
	if show(c) != want {
		t.Error(show(c))
	}
}

// Terms as deep and as wide as the document's limits of all of it let them be.
func TestGreatTerms(t *testing.T) {
	deep := chain(1<<16-1, x(3))
	if term.Size(deep) != 1<<16 || term.Depth(deep) != 1<<16 || term.Ground(deep) || !slices.Equal(term.Vars(deep), []int{3}) {
		t.Error("deep")
	}
	if s, ok := term.At(deep, make(api.Pos, 1<<16-1)); !ok || show(s) != show(x(3)) {
		t.Error("at", ok)
	}
	s, ok := term.Put(deep, make(api.Pos, 1<<16-1), x(4))
	if !ok || term.Compare(deep, s) != -1 || term.Same(deep, s) || !term.Same(deep, deep) {
		t.Error("put", ok)
	}
	for at, s := range term.Places(deep) {
		if len(at) != 0 || !term.Same(s, deep) {
			t.Error("places")
		}
		break
	}
	if e := term.Check(sig(), deep); e != api.ErrArg {
		t.Error(e)
	}
	wide := of(f, make([]api.Term, 1<<18)...)
	if term.Size(wide) != 1<<18+1 || term.Depth(wide) != 2 || term.Check(sig(), wide) != api.ErrArg || term.Compare(wide, wide) != 0 {
		t.Error("wide")
	}
	n := 0
	for range term.Places(wide) {
		n++
	}
	if n != 1<<18+1 {
		t.Error(n)
	}
}

// A term that stands in itself has no size; Check says so all the same, and soon.
func TestCheckOfATermInItself(t *testing.T) {
	args := make([]api.Term, 2)
	args[0], args[1] = of(f, args...), of(f, args...)
	if e := term.Check(sig(), api.Term{Fun: f, Args: args}); e != api.ErrArg {
		t.Error(e)
	}
}
