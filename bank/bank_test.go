package bank_test

import (
	"fmt"
	"maps"
	"math"
	"slices"
	"testing"

	"syllogism/api"
	"syllogism/bank"
	"syllogism/term"
)

const (
	a = 1
	f = 2
	p = 3
)

// sig is the signature of the chapter's examples.
func sig() api.Sig {
	return api.Sig{Syms: []api.Sym{{Name: "$true", Pred: true}, {Name: "a"}, {Name: "f", Arity: 2}, {Name: "p", Arity: 1, Pred: true}}}
}

// full is a signature with a function and a predicate of each arity: of n arguments the numbers 1 + n and 8 + n.
func full() api.Sig {
	s := api.Sig{Syms: []api.Sym{{Name: "$true", Pred: true}}}
	for n := range 14 {
		s.Syms = append(s.Syms, api.Sym{Name: "f", Arity: n % 7, Pred: n > 6})
	}
	return s
}

func of(n int, args ...api.Term) api.Term { return api.Term{Fun: n, Args: args} }
func x(k int, args ...api.Term) api.Term  { return api.Term{Fun: -1 - k, Args: args} }

// show writes a term by its numbers, so that two are the same just if what is shown is.
func show(t api.Term) string {
	s := fmt.Sprint(t.Fun, "(")
	for _, c := range t.Args {
		s += show(c)
	}
	return s + ")"
}

func made(t testing.TB, s api.Sig, l ...api.Term) *bank.Bank {
	t.Helper()
	b, e := bank.New(s)
	if e != api.OK || b == nil {
		t.Fatal("New", e)
	}
	for _, c := range l {
		put(t, b, c)
	}
	return b
}

func put(t testing.TB, b *bank.Bank, c api.Term) int {
	t.Helper()
	n, e := b.Put(c)
	if e != api.OK {
		t.Fatal("Put", show(c), e)
	}
	return n
}

func users(b *bank.Bank, n int) []int { return slices.Collect(b.Users(n)) }

// dump is all that a bank tells of its terms, one text each.
func dump(b *bank.Bank) []string {
	var l []string
	for n := range b.Len() {
		c, e := b.Get(n)
		m, ok := b.Find(c)
		l = append(l, fmt.Sprint(show(c), e, m, ok, b.Args(n), b.Size(n), b.Ground(n), users(b, n)))
	}
	return l
}

// plain is a second bank, that keeps terms as they are, and looks at all of them for all that is asked.
type plain struct{ terms []api.Term }

func (l *plain) find(c api.Term) int {
	return slices.IndexFunc(l.terms, func(d api.Term) bool { return show(c) == show(d) })
}

func (l *plain) put(c api.Term) int {
	for _, d := range c.Args {
		l.put(d)
	}
	if n := l.find(c); n >= 0 {
		return n
	}
	l.terms = append(l.terms, c)
	return len(l.terms) - 1
}

func (l *plain) dump() []string {
	var told []string
	for n, c := range l.terms {
		var args, users []int
		for _, d := range c.Args {
			args = append(args, l.find(d))
		}
		for m, d := range l.terms {
			if slices.ContainsFunc(d.Args, func(d api.Term) bool { return show(c) == show(d) }) {
				users = append(users, m)
			}
		}
		told = append(told, fmt.Sprint(show(c), api.OK, n, true, args, term.Size(c), term.Ground(c), users))
	}
	return told
}

// small is all terms of at most size symbols and variables that may be over full, with the function of no and of two arguments, the predicates of no and of one, $true and three variables.
func small(size int) []api.Term {
	var l []api.Term
	for n := 1; n <= size; n++ {
		l = append(l, proper(n)...)
	}
	for _, c := range l[:len(l):len(l)] {
		l = append(l, of(9, c))
	}
	return append(l, of(0), of(8))
}

func proper(n int) []api.Term {
	if n == 1 {
		return []api.Term{of(1), x(0), x(1), x(47)}
	}
	var l []api.Term
	for k := 1; k < n-1; k++ {
		for _, c := range proper(k) {
			for _, d := range proper(n - 1 - k) {
				l = append(l, of(3, c, d))
			}
		}
	}
	return l
}

// odd are terms that may not be over the signature of the examples.
func odd() []api.Term {
	deep := of(a)
	for range 1000 {
		deep = of(f, deep, of(a))
	}
	return []api.Term{of(f, of(a)), of(f), of(f, of(a), of(a), of(a)), of(a, of(a)), of(0, of(a)), of(p), of(p, of(p, of(a))), of(f, of(a), of(0)),
		of(4), of(math.MaxInt), x(48), x(math.MaxInt), x(0, of(a)), of(f, of(a), x(0, x(1))), of(f, of(4), of(a)), of(f, make([]api.Term, 1000)...), deep}
}

// turned is a list in another order, by a rule that hangs on nothing but n.
func turned(l []api.Term, n int) []api.Term {
	l = slices.Clone(l)
	for i := range l {
		j := (i*i + n*31 + i*n) % (i + 1)
		l[i], l[j] = l[j], l[i]
	}
	return l
}

// scribble writes over all of a term's memory, spare room too.
func scribble(c api.Term) {
	l := c.Args[:cap(c.Args)]
	for i := range l {
		if i < len(c.Args) {
			scribble(l[i])
		}
		l[i] = of(99)
	}
}

// The chapter's table, line by line.
func TestExamples(t *testing.T) {
	b := made(t, sig())
	for i, c := range []struct {
		t    api.Term
		want int
	}{{of(f, of(a), x(0)), 2}, {of(a), 0}, {of(f, x(0), of(a)), 3}} {
		if n, e := b.Put(c.t); n != c.want || e != api.OK {
			t.Error(i, n, e)
		}
	}
	if b.Len() != 4 || !slices.Equal(b.Args(2), []int{0, 1}) || b.Size(2) != 3 || !b.Ground(0) || !slices.Equal(users(b, 0), []int{2, 3}) {
		t.Error(b.Len(), b.Args(2), b.Size(2), b.Ground(0), users(b, 0))
	}
	if n, e := b.Replace(2, api.Pos{1}, 0); n != 4 || e != api.OK {
		t.Error(n, e)
	}
	if c, e := b.Get(4); show(c) != show(of(f, of(a), of(a))) || e != api.OK {
		t.Error(show(c), e)
	}
	if n, e := b.Replace(2, api.Pos{5}, 0); n != 0 || e != api.ErrArg {
		t.Error(n, e)
	}
	if c, e := b.Get(9); show(c) != show(api.Term{}) || e != api.ErrNone {
		t.Error(show(c), e)
	}
	if n, e := b.Put(of(f, of(a))); n != 0 || e != api.ErrArg || b.Len() != 5 {
		t.Error(n, e, b.Len())
	}
}

func TestNew(t *testing.T) {
	long := sig()
	for i := range 93 {
		long.Syms = append(long.Syms, api.Sym{Name: fmt.Sprint("c", i)})
	}
	for i, s := range []api.Sig{
		{},
		{Syms: sig().Syms[1:]},
		{Syms: append(sig().Syms, api.Sym{Name: "f", Arity: 2})},
		{Syms: append(sig().Syms, api.Sym{Name: "g", Arity: 7})},
		{Syms: append(sig().Syms, api.Sym{Name: "g", Arity: -1})},
		{Syms: append(sig().Syms, api.Sym{Name: "g-h"})},
		{Syms: append(sig().Syms, api.Sym{})},
		{Syms: []api.Sym{{Name: "$true"}}},
		long,
	} {
		if b, e := bank.New(s); b != nil || e != api.ErrArg {
			t.Error(i, b, e)
		}
	}
	long.Syms = long.Syms[:api.MaxSyms]
	for i, s := range []api.Sig{sig(), full(), long, {Syms: sig().Syms[:1]}} {
		b := made(t, s)
		if b.Len() != 0 || len(dump(b)) != 0 || put(t, b, of(0)) != 0 || b.Len() != 1 {
			t.Error(i, dump(b))
		}
	}
	if n := put(t, made(t, long), of(95)); n != 0 {
		t.Error("the last symbol", n)
	}
}

// P3.1: what comes of a term comes as its parts end, what is there is left where it is.
func TestPutOrder(t *testing.T) {
	b := made(t, full())
	for i, c := range []struct {
		t    api.Term
		n    int
		came []api.Term
	}{
		{of(4, of(2, x(3)), of(1), of(2, of(2, x(3)))), 4, []api.Term{x(3), of(2, x(3)), of(1), of(2, of(2, x(3))), of(4, of(2, x(3)), of(1), of(2, of(2, x(3))))}},
		{of(3, of(1), x(3)), 5, []api.Term{of(3, of(1), x(3))}},
		{of(3, of(1), x(3)), 5, nil},
		{of(2, x(3)), 1, nil},
		{of(3, of(3, x(5), x(5)), of(3, x(5), x(5))), 8, []api.Term{x(5), of(3, x(5), x(5)), of(3, of(3, x(5), x(5)), of(3, x(5), x(5)))}},
		{of(9, of(3, x(5), x(6))), 11, []api.Term{x(6), of(3, x(5), x(6)), of(9, of(3, x(5), x(6)))}},
		{of(0), 12, []api.Term{of(0)}},
		{of(8), 13, []api.Term{of(8)}},
		{of(14, x(5), x(6), x(7), x(6), x(8), x(5)), 16, []api.Term{x(7), x(8), of(14, x(5), x(6), x(7), x(6), x(8), x(5))}},
		{api.Term{Fun: 1, Args: []api.Term{}}, 2, nil},
		{x(47), 17, []api.Term{x(47)}},
	} {
		was := b.Len()
		if n := put(t, b, c.t); n != c.n || b.Len() != was+len(c.came) {
			t.Error(i, n, b.Len())
		}
		for k, d := range c.came {
			if got, e := b.Get(was + k); show(got) != show(d) || e != api.OK {
				t.Error(i, k, show(got), e)
			}
		}
	}
}

func TestArgsSizeGround(t *testing.T) {
	b := made(t, full(), of(1), x(9), of(4, of(1), x(9), of(1)), of(3, of(1), of(1)), of(10, of(3, of(1), of(1)), of(4, of(1), x(9), of(1))), of(0))
	for n, c := range []struct {
		args   []int
		size   int
		ground bool
	}{{nil, 1, true}, {nil, 1, false}, {[]int{0, 1, 0}, 4, false}, {[]int{0, 0}, 3, true}, {[]int{3, 2}, 8, false}, {nil, 1, true}} {
		if !slices.Equal(b.Args(n), c.args) || b.Size(n) != c.size || b.Ground(n) != c.ground {
			t.Error(n, b.Args(n), b.Size(n), b.Ground(n))
		}
	}
}

// P3.3: only those in which it stands on top of an argument; a user that has it twice is told once.
func TestUsers(t *testing.T) {
	b := made(t, full(), x(0), of(3, x(0), x(0)), of(4, x(0), of(1), x(0)), of(2, of(3, x(0), x(0))), of(3, of(1), x(0)))
	for n, want := range [][]int{{1, 3, 5}, {4}, {3, 5}, nil, nil, nil} {
		if got := users(b, n); !slices.Equal(got, want) {
			t.Error(n, got)
		}
	}
}

func TestUsersAreLeftAndGoneOverAgain(t *testing.T) {
	b := made(t, full(), x(0), of(2, x(0)), of(3, x(0), x(0)), of(4, x(0), x(0), x(0)), of(9, x(0)))
	it := b.Users(0)
	for stop := 1; stop <= 4; stop++ {
		var got []int
		it(func(n int) bool {
			got = append(got, n)
			return len(got) < stop
		})
		if !slices.Equal(got, []int{1, 2, 3, 4}[:stop]) {
			t.Error(stop, got)
		}
	}
	pairs := 0
	for n := range it {
		for range it {
			pairs++
		}
		if n == 3 {
			break
		}
	}
	if pairs != 12 {
		t.Error(pairs)
	}
}

// What comes behind the call that gave an iterator is not told by it, nor when it comes as it is gone over.
func TestUsersTellWhatThereWas(t *testing.T) {
	b := made(t, full(), x(0), of(2, x(0)))
	early, none, last := b.Users(0), b.Users(1), b.Users(2)
	put(t, b, of(2, of(2, x(0))))
	put(t, b, of(3, x(0), x(0)))
	var got []int
	for n := range b.Users(0) {
		got = append(got, n)
		put(t, b, of(4, x(0), x(n), x(0)))
	}
	if !slices.Equal(got, []int{1, 3}) || !slices.Equal(slices.Collect(early), []int{1}) || slices.Collect(none) != nil || slices.Collect(last) != nil {
		t.Error(got, slices.Collect(early), slices.Collect(none), slices.Collect(last))
	}
	if now := users(b, 0); !slices.Equal(now, []int{1, 3, 5, 7}) {
		t.Error(now)
	}
}

// All of P3.1 to P3.3, held against the plain bank, whatever the order in which the terms come.
func TestAllSmallTerms(t *testing.T) {
	l := small(5)
	for order := range 4 {
		b, second := made(t, full()), &plain{}
		for i, c := range turned(l, order) {
			was := second.find(c)
			if n, ok := b.Find(c); ok != (was >= 0) || n != max(was, 0) {
				t.Fatal(order, "Find", show(c), n, ok)
			}
			if n := put(t, b, c); n != second.put(c) || b.Len() != len(second.terms) {
				t.Fatal(order, "Put", show(c), n)
			}
			if i%150 == 0 && !slices.Equal(dump(b), second.dump()) {
				t.Fatal(order, i)
			}
		}
		if !slices.Equal(dump(b), second.dump()) {
			t.Error(order)
		}
	}
}

// named is what a bank tells, with terms instead of their numbers.
func named(b *bank.Bank) map[string]string {
	as := func(l []int) []string {
		var names []string
		for _, n := range l {
			c, _ := b.Get(n)
			names = append(names, show(c))
		}
		return names
	}
	m := map[string]string{}
	for n := range b.Len() {
		u := as(users(b, n))
		slices.Sort(u)
		m[as([]int{n})[0]] = fmt.Sprint(as(b.Args(n)), b.Size(n), b.Ground(n), u)
	}
	return m
}

// P3.5: the order changes numbers alone; and what came stays.
func TestOrderChangesNumbersAlone(t *testing.T) {
	l := small(5)
	first := made(t, full(), l...)
	same := true
	for order := range 4 {
		b := made(t, full())
		at := map[string]int{}
		for _, c := range turned(l, order) {
			at[show(c)] = put(t, b, c)
		}
		if !maps.Equal(named(b), named(first)) || len(named(b)) != b.Len() {
			t.Error(order)
		}
		for _, c := range l {
			n, ok := b.Find(c)
			m, _ := first.Find(c)
			if !ok || n != at[show(c)] || put(t, b, c) != n {
				t.Fatal(order, show(c), n, ok)
			}
			same = same && n == m
		}
	}
	if same {
		t.Error("no number changed: the orders are one")
	}
}

// Numbers of more than two bytes, in arguments that differ in each byte of theirs.
func TestManyTerms(t *testing.T) {
	b := made(t, full())
	want := 0
	for i := range 48 {
		want = put(t, b, x(i)) + 1
	}
	for i := range 48 {
		for j := range 48 {
			for k := range 30 {
				pair := of(3, x(i), x(j))
				if _, ok := b.Find(pair); !ok {
					want++
				}
				if n := put(t, b, of(3, pair, x(k))); n != want {
					t.Fatal(i, j, k, n)
				}
				want++
			}
		}
	}
	last := b.Len()
	if last != 48+48*48+48*48*30 {
		t.Fatal(last)
	}
	for n := 48; n < last; n += 97 {
		if got := put(t, b, of(2, must(t, b, n))); got != b.Len()-1 || !slices.Equal(b.Args(got), []int{n}) {
			t.Fatal(n, got)
		}
		if u := users(b, n); u[len(u)-1] != b.Len()-1 {
			t.Fatal(n, u)
		}
	}
	for n := 48; n+256 < last; n += 1009 {
		for _, m := range []int{n + 1, n + 256, n % 256, n % 65536} {
			c := of(10, must(t, b, n), must(t, b, m))
			if got := put(t, b, c); show(must(t, b, got)) != show(c) || !slices.Equal(b.Args(got), []int{n, m}) {
				t.Fatal(n, m, got)
			}
		}
	}
}

func must(t testing.TB, b *bank.Bank, n int) api.Term {
	t.Helper()
	c, e := b.Get(n)
	if e != api.OK {
		t.Fatal("Get", n, e)
	}
	return c
}

func TestReplace(t *testing.T) {
	l := []api.Term{of(f, of(f, of(a), x(0)), of(a)), of(p, of(f, x(1), x(1))), of(0)} // a X0 f(a,X0) f(f(a,X0),a) X1 f(X1,X1) p(f(X1,X1)) $true
	for i, c := range []struct {
		n    int
		p    api.Pos
		m    int
		want int
		e    api.Errno
		came []api.Term
	}{
		{3, api.Pos{0}, 1, 8, api.OK, []api.Term{of(f, x(0), of(a))}},
		{3, api.Pos{0, 1}, 4, 9, api.OK, []api.Term{of(f, of(a), x(1)), of(f, of(f, of(a), x(1)), of(a))}},
		{3, api.Pos{1}, 3, 8, api.OK, []api.Term{of(f, of(f, of(a), x(0)), of(f, of(f, of(a), x(0)), of(a)))}},
		{3, nil, 5, 5, api.OK, nil},
		{3, api.Pos{}, 6, 6, api.OK, nil},
		{6, nil, 7, 7, api.OK, nil},
		{0, nil, 0, 0, api.OK, nil},
		{3, api.Pos{0}, 2, 3, api.OK, nil},
		{3, api.Pos{1}, 0, 3, api.OK, nil},
		{3, api.Pos{0, 1}, 1, 3, api.OK, nil},
		{6, api.Pos{0}, 0, 8, api.OK, []api.Term{of(p, of(a))}},
		{6, api.Pos{0, 1}, 0, 9, api.OK, []api.Term{of(f, x(1), of(a)), of(p, of(f, x(1), of(a)))}},
		{6, api.Pos{0}, 6, 0, api.ErrArg, nil},
		{6, api.Pos{0}, 7, 0, api.ErrArg, nil},
		{3, api.Pos{1}, 7, 0, api.ErrArg, nil},
		{3, api.Pos{2}, 0, 0, api.ErrArg, nil},
		{3, api.Pos{-1}, 0, 0, api.ErrArg, nil},
		{3, api.Pos{1, 0}, 0, 0, api.ErrArg, nil},
		{3, api.Pos{0, 1, 0}, 0, 0, api.ErrArg, nil},
		{3, api.Pos{math.MaxInt}, 0, 0, api.ErrArg, nil},
		{3, make(api.Pos, 10000), 0, 0, api.ErrArg, nil},
		{8, nil, 0, 0, api.ErrNone, nil},
		{0, nil, 8, 0, api.ErrNone, nil},
		{-1, nil, 0, 0, api.ErrNone, nil},
		{0, nil, -1, 0, api.ErrNone, nil},
		{math.MinInt, nil, math.MaxInt, 0, api.ErrNone, nil},
		{8, api.Pos{9}, 0, 0, api.ErrNone, nil},
		{3, api.Pos{9}, 8, 0, api.ErrNone, nil},
		{3, api.Pos{9}, 7, 0, api.ErrArg, nil},
	} {
		b := made(t, sig(), l...)
		was := dump(b)
		if n, e := b.Replace(c.n, c.p, c.m); n != c.want || e != c.e {
			t.Error(i, n, e)
		}
		for k, d := range c.came {
			if got, e := b.Get(8 + k); show(got) != show(d) || e != api.OK {
				t.Error(i, k, show(got), e)
			}
		}
		if b.Len() != 8+len(c.came) || len(c.came) == 0 && !slices.Equal(dump(b), was) {
			t.Error(i, b.Len())
		}
	}
}

// P3.4, of all pairs of some terms and all places, held against the term with the other one put in there.
func TestReplaceAsPut(t *testing.T) {
	l := []api.Term{of(9, of(3, of(3, of(1), x(0)), of(3, x(0), of(1)))), of(0), of(10, x(47), of(2, x(47)))}
	size := made(t, full(), l...).Len()
	for n := range size {
		for m := range size {
			for _, at := range []api.Pos{nil, {0}, {1}, {2}, {0, 0}, {0, 1}, {1, 0}, {1, 1}, {0, 0, 0}, {0, 0, 1}, {0, 1, 0}, {1, 1, 0}} {
				b, second := made(t, full(), l...), made(t, full(), l...)
				want, wrong := 0, api.ErrArg
				if c, ok := term.Put(must(t, b, n), at, must(t, b, m)); ok {
					want, wrong = second.Put(c)
				}
				if got, e := b.Replace(n, at, m); got != want || e != wrong || !slices.Equal(dump(b), dump(second)) {
					t.Fatal(n, at, m, got, e)
				}
			}
		}
	}
}

// The limits of a term hold for what Replace makes, too.
func TestReplaceAtTheLimits(t *testing.T) {
	deep := of(a)
	for range 14 {
		deep = of(f, deep, of(a))
	}
	wide := of(a)
	for wide = of(f, wide, wide); term.Size(wide) < 100; wide = of(f, wide, wide) {
	}
	b := made(t, sig(), deep, wide)
	d, _ := b.Find(deep)
	w, _ := b.Find(wide)
	at := make(api.Pos, 14)
	n, e := b.Replace(d, at, d) // 15 - 1 + 15 deep
	if e != api.OK || term.Depth(must(t, b, n)) != 29 {
		t.Error(n, e)
	}
	up, e := b.Replace(d, api.Pos{0}, n)
	if e != api.OK || term.Depth(must(t, b, up)) != 30 {
		t.Error(up, e)
	}
	was := dump(b)
	if n, e := b.Replace(d, api.Pos{0}, up); n != 0 || e != api.ErrArg {
		t.Error("31 deep", n, e)
	}
	if n, e := b.Replace(w, api.Pos{0}, w); e != api.OK || b.Size(n) != 127+1+63 {
		t.Error(n, e, b.Size(n))
	}
	both := b.Len() - 1
	if n, e := b.Replace(both, api.Pos{1}, both); n != 0 || e != api.ErrArg {
		t.Error("319 large", n, e)
	}
	if b.Len() != len(was)+1 || len(was) < 30 {
		t.Error(b.Len(), len(was))
	}
}

// wide has n symbols and variables, not many of them in one another.
func wide(n int) api.Term {
	if n == 1 {
		return x(n)
	}
	if n == 2 {
		return of(2, of(1))
	}
	return of(3, wide((n-1)/2), wide(n-1-(n-1)/2))
}

// Terms of just the limits' size and depth come, of those above nothing does.
func TestPutAtTheLimits(t *testing.T) {
	deep := x(0)
	for n := 1; n < 400; n++ {
		for _, c := range []struct {
			t   api.Term
			may bool
		}{{wide(n), n <= 300}, {deep, n <= 30}} {
			b := made(t, full())
			m, e := b.Put(c.t)
			if c.may && (e != api.OK || m != b.Len()-1 || b.Size(m) != n) {
				t.Error(n, m, e, b.Size(m))
			}
			if !c.may && (e != api.ErrArg || m != 0 || b.Len() != 0) {
				t.Error(n, m, e, b.Len())
			}
		}
		deep = of(2, deep)
	}
}

func TestPutRefuses(t *testing.T) {
	b := made(t, sig(), of(f, of(a), x(0)))
	was := dump(b)
	for i, c := range append(odd(), of(f, x(7), x(48)), of(f, of(f, x(8), x(9)), of(f, of(p, x(3)), x(4)))) {
		if n, e := b.Put(c); n != 0 || e != api.ErrArg {
			t.Error(i, n, e)
		}
		if n, ok := b.Find(c); n != 0 || ok {
			t.Error(i, n, ok)
		}
		if !slices.Equal(dump(b), was) {
			t.Fatal(i, "something came")
		}
	}
	for _, c := range []api.Term{x(7), x(8), x(9), of(f, x(8), x(9)), of(f, of(a), of(a)), of(p, x(0)), of(0)} {
		if n, ok := b.Find(c); n != 0 || ok {
			t.Error(show(c), n, ok)
		}
	}
}

// A term that stands in itself, and one that is greater than memory, since its lists are shared: both are refused, and soon.
func TestTermsWithoutEnd(t *testing.T) {
	args := make([]api.Term, 2)
	args[0], args[1] = of(f, args...), of(f, args...)
	twofold := of(a)
	for range 200 {
		twofold = of(f, twofold, twofold)
	}
	b := made(t, sig(), of(f, of(a), of(a)))
	for i, c := range []api.Term{{Fun: f, Args: args}, {Fun: p, Args: args[:1]}, twofold} {
		n, e := b.Put(c)
		m, ok := b.Find(c)
		if n != 0 || e != api.ErrArg || m != 0 || ok || b.Len() != 2 {
			t.Error(i, n, e, m, ok, b.Len())
		}
	}
}

// A number is one of a term that has come, or none.
func TestNumbersThatAreNotThere(t *testing.T) {
	for _, b := range []*bank.Bank{made(t, sig()), made(t, sig(), of(f, of(a), x(0)))} {
		for _, n := range []int{-1, math.MinInt, b.Len(), b.Len() + 1, math.MaxInt, 1 << 32} {
			if c, e := b.Get(n); show(c) != show(api.Term{}) || e != api.ErrNone {
				t.Error(n, show(c), e)
			}
			if len(b.Args(n)) != 0 || b.Size(n) != 0 || b.Ground(n) || len(users(b, n)) != 0 {
				t.Error(n, b.Args(n), b.Size(n), b.Ground(n), users(b, n))
			}
			if m, e := b.Replace(n, nil, n); m != 0 || e != api.ErrNone {
				t.Error(n, m, e)
			}
		}
	}
}

// No bank, and one that New did not make, answer the same: whatever else is wrong, ErrNil goes ahead.
func TestNoBank(t *testing.T) {
	refused, _ := bank.New(api.Sig{})
	for i, b := range []*bank.Bank{nil, refused, {}} {
		for _, c := range append(odd(), of(a), of(0), x(0)) {
			n, e := b.Put(c)
			m, ok := b.Find(c)
			if n != 0 || e != api.ErrNil || m != 0 || ok {
				t.Error(i, show(c), n, e, m, ok)
			}
		}
		for _, n := range []int{0, 1, -1, math.MaxInt} {
			if c, e := b.Get(n); show(c) != show(api.Term{}) || e != api.ErrNil {
				t.Error(i, show(c), e)
			}
			if b.Len() != 0 || len(b.Args(n)) != 0 || b.Size(n) != 0 || b.Ground(n) {
				t.Error(i, n)
			}
			for m := range b.Users(n) {
				t.Error(i, n, m)
			}
			if m, e := b.Replace(n, api.Pos{n}, -n); m != 0 || e != api.ErrNil {
				t.Error(i, n, m, e)
			}
		}
	}
}

// roomy is a term each of whose lists has spare room behind it, with something in it.
func roomy() api.Term {
	with := func(n int, args ...api.Term) api.Term {
		return api.Term{Fun: n, Args: append(args, of(70), x(70))[:len(args)]}
	}
	return with(f, with(f, with(a), x(0)), with(f, x(1), x(1)))
}

// all writes a term and what stands in the spare room of its lists.
func all(c api.Term) string {
	s := fmt.Sprint(c.Fun, "(")
	for _, d := range c.Args[:cap(c.Args)] {
		s += all(d)
	}
	return s + ")"
}

func TestNothingHandedInIsChangedOrKept(t *testing.T) {
	syms := append(sig().Syms, api.Sym{Name: "spare"})[:4]
	b := made(t, api.Sig{Syms: syms})
	c, at := roomy(), append(api.Pos{0, 1}, 5, 5)[:2]
	was := all(c)
	n := put(t, b, c)
	b.Find(c)
	b.Replace(n, at, 0)
	told := dump(b)
	if all(c) != was || !slices.Equal(at[:4], api.Pos{0, 1, 5, 5}) || syms[:5][4].Name != "spare" {
		t.Error(all(c), at[:4], syms[:5])
	}
	scribble(c)
	clear(at)
	clear(syms)
	if !slices.Equal(dump(b), told) {
		t.Error("what the caller writes is seen")
	}
	if m := put(t, b, roomy()); m != n {
		t.Error(m)
	}
	if e := fmt.Sprint(b.Put(of(f, of(a), x(9)))); e != fmt.Sprint(b.Len()-1, api.OK) {
		t.Error("the signature is the caller's", e)
	}
}

func TestAnswersAreTheCallersOwn(t *testing.T) {
	c := of(f, of(f, of(a), x(0)), of(f, of(a), x(0)))
	b := made(t, sig(), c, of(p, c))
	told := dump(b)
	for n := range b.Len() {
		once, again := must(t, b, n), must(t, b, n)
		args, twice := b.Args(n), b.Args(n)
		scribble(once)
		for l := args[:cap(args)]; len(l) > 0; l = l[1:] {
			l[0] = 77
		}
		if m, ok := b.Find(again); m != n || !ok || slices.Contains(twice, 77) || !slices.Equal(dump(b), told) {
			t.Error(n, show(again), twice)
		}
	}
	within := must(t, b, 3)
	scribble(within.Args[0])
	if show(within.Args[1]) != show(c.Args[1]) {
		t.Error("shared within", show(within))
	}
}

// Two banks know nothing of each other; a copy of one is that one.
func TestBanksAreApart(t *testing.T) {
	b, other := made(t, sig(), of(a)), made(t, sig(), x(5))
	put(t, b, of(f, of(a), of(a)))
	if other.Len() != 1 || b.Len() != 2 {
		t.Error(other.Len(), b.Len())
	}
	if _, ok := other.Find(of(a)); ok {
		t.Error("found in the other")
	}
	half := *b
	n := put(t, &half, of(p, of(f, of(a), of(a))))
	if m, ok := b.Find(of(p, of(f, of(a), of(a)))); m != n || !ok || !slices.Equal(dump(b), dump(&half)) {
		t.Error(m, ok, n)
	}
}
