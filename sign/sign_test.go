package sign_test

import (
	"math"
	"slices"
	"strconv"
	"strings"
	"testing"

	"syllogism/api"
	"syllogism/sign"
)

var truth = api.Sym{Name: "$true", Pred: true}

func fun(name string, arity int) api.Sym  { return api.Sym{Name: name, Arity: arity} }
func pred(name string, arity int) api.Sym { return api.Sym{Name: name, Arity: arity, Pred: true} }

// sig has $true ahead of the others; it asks nothing of them.
func sig(l ...api.Sym) api.Sig { return api.Sig{Syms: append([]api.Sym{truth}, l...)} }

// some makes n symbols, no two the same.
func some(n int) []api.Sym {
	var l []api.Sym
	for i := range n {
		l = append(l, fun("c"+strconv.Itoa(i), 0))
	}
	return l
}

// broken is one signature for each error that Check tells.
func broken() map[api.Errno]api.Sig {
	return map[api.Errno]api.Sig{
		api.ErrLong:  sig(some(api.MaxSyms)...),
		api.ErrTrue:  {},
		api.ErrName:  sig(fun("f-g", 0)),
		api.ErrArity: sig(fun("f", 7)),
		api.ErrSame:  sig(fun("f", 1), fun("f", 1)),
	}
}

func names(n int) string { return strings.Repeat("n", n) }

// badNames has none that may be; the last ones are right but for one place.
func badNames() []string {
	return []string{"", "$true", "$", " ", "a b", "f-g", "é", "aé", "a\x00", "\xff", "a\n", names(41), names(8001),
		names(39) + "-", "-" + names(39), names(20) + "." + names(19)}
}

func TestNew(t *testing.T) {
	a, b := sign.New(), sign.New()
	if !slices.Equal(a.Syms, []api.Sym{truth}) || sign.Check(a) != api.OK {
		t.Fatal(a)
	}
	a.Syms[0].Name = "p"
	_ = append(a.Syms, fun("f", 0))
	if b.Syms[0] != truth || sign.New().Syms[0] != truth {
		t.Error("New shares what it answers")
	}
}

func TestCheckTellsTheFirstError(t *testing.T) {
	long := some(api.MaxSyms)
	for i, x := range []struct {
		l []api.Sym
		e api.Errno
	}{
		{nil, api.ErrTrue},
		{[]api.Sym{}, api.ErrTrue},
		{[]api.Sym{truth}, api.OK},
		{[]api.Sym{fun("a", 0)}, api.ErrTrue},
		{[]api.Sym{fun("a", 0), truth}, api.ErrTrue},
		{[]api.Sym{fun("$true", 0)}, api.ErrTrue},
		{[]api.Sym{pred("$true", 1)}, api.ErrTrue},
		{[]api.Sym{pred("true", 0)}, api.ErrTrue},
		{[]api.Sym{{}}, api.ErrTrue},
		{[]api.Sym{pred("$false", 0), fun("", 9)}, api.ErrTrue},
		{[]api.Sym{truth, truth}, api.ErrName},
		{[]api.Sym{truth, pred("$true", 2)}, api.ErrName},
		{[]api.Sym{truth, fun("a", 0), truth}, api.ErrName},
		{[]api.Sym{truth, {}}, api.ErrName},
		{[]api.Sym{truth, fun("", 7)}, api.ErrName},
		{[]api.Sym{truth, fun("f", 7), fun("", 0)}, api.ErrArity},
		{[]api.Sym{truth, fun("f", 7), fun("f", 7)}, api.ErrArity},
		{[]api.Sym{truth, fun("f", 1), fun("f", 1), fun("", 0)}, api.ErrSame},
		{[]api.Sym{truth, fun("f", 1), fun("", 0), fun("f", 1)}, api.ErrName},
		{[]api.Sym{truth, fun("f", 1), fun("f", -1), fun("f", 1)}, api.ErrArity},
		{[]api.Sym{truth, fun("f", 1), fun("g", 1), pred("p", 1), fun("f", 1)}, api.ErrSame},
		{[]api.Sym{truth, pred("p", 1), pred("p", 1)}, api.ErrSame},
		{[]api.Sym{truth, fun("f", 1), fun("f", 2), pred("f", 1), pred("f", 2), fun("F", 1)}, api.OK},
		{append([]api.Sym{truth}, long[1:]...), api.OK},
		{append([]api.Sym{truth}, long...), api.ErrLong},
		{long, api.ErrTrue},
		{make([]api.Sym, 96), api.ErrTrue},
		{make([]api.Sym, 97), api.ErrLong},
		{make([]api.Sym, 100000), api.ErrLong},
	} {
		if e := sign.Check(api.Sig{Syms: x.l}); e != x.e {
			t.Error(i, e, x.e)
		}
	}
}

func TestNamesMayBe(t *testing.T) {
	good := "abcdefghijklmnopqrstuvwxyzABCDEFGHIJKLMNOPQRSTUVWXYZ0123456789_"
	for b := range 256 {
		c := string([]byte{byte(b)})
		for _, name := range []string{c, c + "a", "a" + c, "a" + c + "a", names(39) + c} {
			want := api.ErrName
			if strings.Contains(good, c) {
				want = api.OK
			}
			told(t, fun(name, 0), want)
			told(t, pred(name, 6), want)
		}
	}
	for _, name := range badNames() {
		told(t, fun(name, 0), api.ErrName)
		told(t, pred(name, 7), api.ErrName)
	}
	for n := range 45 {
		want := api.OK
		if n == 0 || n > 40 {
			want = api.ErrName
		}
		told(t, fun(names(n), 3), want)
	}
}

func TestAritiesMayBe(t *testing.T) {
	for n := range 7 {
		told(t, fun("f", n), api.OK)
		told(t, pred("p", n), api.OK)
	}
	for _, n := range []int{-1, 7, 8, -7, 1000, math.MaxInt, math.MinInt} {
		told(t, fun("f", n), api.ErrArity)
		told(t, pred("p", n), api.ErrArity)
	}
}

// told asks what Check, Add and Fresh say of one symbol.
func told(t *testing.T, x api.Sym, want api.Errno) {
	t.Helper()
	if e := sign.Check(sig(fun("g", 1), x)); e != want {
		t.Errorf("Check %+v: %d", x, e)
	}
	if _, e := sign.Add(sign.New(), fun("g", 1), x); e != want {
		t.Errorf("Add %+v: %d", x, e)
	}
	if want == api.OK && len(x.Name) == api.MaxName {
		want = api.ErrName
	}
	if _, e := sign.Fresh(sign.New(), x.Name, x.Arity, x.Pred); e != want {
		t.Errorf("Fresh %+v: %d", x, e)
	}
}

func TestFind(t *testing.T) {
	s := sig(fun("f", 2), pred("p", 1), fun("f", 1), pred("f", 2))
	bad := api.Sig{Syms: []api.Sym{fun("-", 9), {}, truth, fun("-", 9), {}, truth}}
	for i, x := range []struct {
		s  api.Sig
		x  api.Sym
		n  int
		ok bool
	}{
		{s, truth, 0, true},
		{s, fun("f", 2), 1, true},
		{s, pred("p", 1), 2, true},
		{s, fun("f", 1), 3, true},
		{s, pred("f", 2), 4, true},
		{s, fun("f", 0), 0, false},
		{s, fun("p", 1), 0, false},
		{s, pred("p", 2), 0, false},
		{s, pred("P", 1), 0, false},
		{s, api.Sym{}, 0, false},
		{s, fun("$true", 0), 0, false},
		{api.Sig{}, truth, 0, false},
		{api.Sig{}, api.Sym{}, 0, false},
		{bad, fun("-", 9), 0, true},
		{bad, api.Sym{}, 1, true},
		{bad, truth, 2, true},
		{bad, fun("-", -9), 0, false},
		{api.Sig{Syms: append(make([]api.Sym, 1000), truth)}, truth, 1000, true},
	} {
		if n, ok := sign.Find(x.s, x.x); n != x.n || ok != x.ok {
			t.Error(i, n, ok)
		}
	}
}

func TestSame(t *testing.T) {
	f, g := fun("f", 1), fun("g", 1)
	l := [][]api.Sym{{}, {truth}, {truth, f}, {truth, g}, {truth, f, g}, {truth, g, f}, {f, truth, g}, {truth, pred("f", 1)},
		{truth, fun("f", 2)}, {truth, f, f}, {{}}, {{}, {}}, {fun("-", 9)}, make([]api.Sym, 1000), make([]api.Sym, 1001)}
	for i, a := range l {
		for j, b := range l {
			if sign.Same(api.Sig{Syms: a}, api.Sig{Syms: slices.Clone(b)}) != (i == j) {
				t.Error(i, j)
			}
		}
	}
	if !sign.Same(api.Sig{}, api.Sig{Syms: []api.Sym{}}) {
		t.Error("nil and empty mean the same")
	}
}

// seen is what Symbols goes over.
func seen(s api.Sig, pred bool) (numbers []int, syms []api.Sym) {
	for i, x := range sign.Symbols(s, pred) {
		numbers = append(numbers, i)
		syms = append(syms, x)
	}
	return numbers, syms
}

func TestSymbols(t *testing.T) {
	f, p, a, q := fun("f", 2), pred("p", 1), fun("a", 0), pred("q", 0)
	for i, x := range []struct {
		s    api.Sig
		pred bool
		n    []int
		l    []api.Sym
	}{
		{sig(f, p, a, q), true, []int{0, 2, 4}, []api.Sym{truth, p, q}},
		{sig(f, p, a, q), false, []int{1, 3}, []api.Sym{f, a}},
		{sign.New(), true, []int{0}, []api.Sym{truth}},
		{sign.New(), false, nil, nil},
		{api.Sig{}, true, nil, nil},
		{api.Sig{}, false, nil, nil},
		{api.Sig{Syms: []api.Sym{f, f, {}, truth, pred("-", 9), truth}}, false, []int{0, 1, 2}, []api.Sym{f, f, {}}},
		{api.Sig{Syms: []api.Sym{f, f, {}, truth, pred("-", 9), truth}}, true, []int{3, 4, 5}, []api.Sym{truth, pred("-", 9), truth}},
	} {
		if n, l := seen(x.s, x.pred); !slices.Equal(n, x.n) || !slices.Equal(l, x.l) {
			t.Error(i, n, l)
		}
	}
	if n, _ := seen(api.Sig{Syms: make([]api.Sym, 1000)}, false); len(n) != 1000 {
		t.Error(len(n))
	}
}

func TestSymbolsAreLeftAndGoneOverAgain(t *testing.T) {
	s := sig(fun("f", 2), pred("p", 1), fun("a", 0), fun("b", 0))
	it := sign.Symbols(s, false)
	for range 3 {
		n := 0
		for i := range it {
			n++
			if i == 3 {
				break
			}
		}
		if n != 2 {
			t.Error(n)
		}
	}
	s.Syms[1], s.Syms[2], s.Syms[4] = pred("r", 0), fun("c", 0), api.Sym{}
	var got []api.Sym
	for _, x := range it {
		got = append(got, x)
	}
	if !slices.Equal(got, []api.Sym{fun("f", 2), fun("a", 0), fun("b", 0)}) {
		t.Error("it tells another signature than the one that there was", got)
	}
}

func TestAdd(t *testing.T) {
	f, p, a := fun("f", 2), pred("p", 1), fun("a", 0)
	for i, x := range []struct {
		s api.Sig
		l []api.Sym
		w api.Sig
		e api.Errno
	}{
		{sign.New(), []api.Sym{f, p, f}, sig(f, p), api.OK},
		{sign.New(), nil, sign.New(), api.OK},
		{sign.New(), []api.Sym{truth}, sign.New(), api.OK},
		{sign.New(), []api.Sym{truth, a, truth, a}, sig(a), api.OK},
		{sig(f, p), []api.Sym{a, p, f}, sig(f, p, a), api.OK},
		{sig(f), []api.Sym{p, fun("f", 1), pred("f", 2), p}, sig(f, p, fun("f", 1), pred("f", 2)), api.OK},
		{sig(f), []api.Sym{fun("$true", 0)}, api.Sig{}, api.ErrName},
		{sig(f), []api.Sym{pred("$true", 1)}, api.Sig{}, api.ErrName},
		{sig(f), []api.Sym{pred("$false", 0)}, api.Sig{}, api.ErrName},
		{sig(f), []api.Sym{a, fun("g", 7), fun("", 0)}, api.Sig{}, api.ErrArity},
		{sig(f), []api.Sym{a, fun("", 7), fun("g", 7)}, api.Sig{}, api.ErrName},
		{sig(f), []api.Sym{f, {}}, api.Sig{}, api.ErrName},
		{sig(some(94)...), []api.Sym{f}, sig(append(some(94), f)...), api.OK},
		{sig(some(94)...), []api.Sym{f, f, truth, fun("c3", 0)}, sig(append(some(94), f)...), api.OK},
		{sig(some(94)...), []api.Sym{f, p}, api.Sig{}, api.ErrLong},
		{sig(some(94)...), []api.Sym{f, p, fun("f", -1)}, api.Sig{}, api.ErrArity},
		{sig(some(95)...), some(95), sig(some(95)...), api.OK},
		{sig(some(95)...), []api.Sym{truth}, sig(some(95)...), api.OK},
		{sig(some(95)...), []api.Sym{f}, api.Sig{}, api.ErrLong},
		{sig(some(95)...), []api.Sym{f, fun("-", 0)}, api.Sig{}, api.ErrName},
		{sign.New(), some(95), sig(some(95)...), api.OK},
		{sign.New(), some(96), api.Sig{}, api.ErrLong},
		{sign.New(), make([]api.Sym, 1000), api.Sig{}, api.ErrName},
		{sign.New(), slices.Repeat([]api.Sym{f, p, truth}, 1000), sig(f, p), api.OK},
		{sign.New(), some(1000), api.Sig{}, api.ErrLong},
		{sign.New(), append(some(1000), fun("f", 7)), api.Sig{}, api.ErrArity},
	} {
		if s, e := sign.Add(x.s, x.l...); e != x.e || !sign.Same(s, x.w) || e != api.OK && s.Syms != nil {
			t.Error(i, s, e)
		}
	}
}

// The signature's own error goes ahead of those of what is added.
func TestAddOfWhatMayNotBe(t *testing.T) {
	for want, s := range broken() {
		for _, l := range [][]api.Sym{nil, {fun("a", 0)}, {{}}, {fun("f", 7)}, some(200), s.Syms} {
			if got, e := sign.Add(s, l...); e != want || got.Syms != nil {
				t.Error(want, got, e)
			}
		}
	}
}

func TestFresh(t *testing.T) {
	digits := func(name string, n int) []api.Sym {
		var l []api.Sym
		for i := range n {
			l = append(l, fun(name+strconv.Itoa(i+1), 0))
		}
		return l
	}
	for i, x := range []struct {
		s     api.Sig
		name  string
		arity int
		pred  bool
		want  api.Sym
		e     api.Errno
	}{
		{sign.New(), "sk", 0, false, fun("sk1", 0), api.OK},
		{sign.New(), "def", 6, true, pred("def1", 6), api.OK},
		{sig(fun("f", 2), pred("p", 1), fun("sk1", 0)), "sk", 3, false, fun("sk2", 3), api.OK},
		{sig(fun("sk1", 0)), "sk", 3, true, pred("sk2", 3), api.OK},
		{sig(pred("sk1", 2)), "sk", 2, false, fun("sk2", 2), api.OK},
		{sig(fun("sk1", 5), pred("sk1", 2)), "sk", 0, true, pred("sk2", 0), api.OK},
		{sig(fun("sk2", 0), fun("sk3", 0)), "sk", 1, false, fun("sk1", 1), api.OK},
		{sig(fun("sk3", 0), fun("sk1", 0)), "sk", 1, false, fun("sk2", 1), api.OK},
		{sig(fun("sk01", 0), fun("sk", 0), fun("SK1", 0), fun("sk0", 0)), "sk", 1, false, fun("sk1", 1), api.OK},
		{sig(fun("sk1", 0)), "sk1", 1, false, fun("sk11", 1), api.OK},
		{sig(digits("sk", 9)...), "sk", 1, false, fun("sk10", 1), api.OK},
		{sig(digits("sk", 95)...), "sk", 1, false, fun("sk96", 1), api.OK},
		{sig(digits(names(39), 8)...), names(39), 1, false, fun(names(39)+"9", 1), api.OK},
		{sig(digits(names(39), 9)...), names(39), 1, false, api.Sym{}, api.ErrName},
		{sig(digits(names(38), 9)...), names(38), 1, true, pred(names(38)+"10", 1), api.OK},
		{sign.New(), names(39), 0, false, fun(names(39)+"1", 0), api.OK},
		{sign.New(), names(40), 0, false, api.Sym{}, api.ErrName},
		{sign.New(), names(41), 0, false, api.Sym{}, api.ErrName},
		{sign.New(), "", 0, false, api.Sym{}, api.ErrName},
		{sign.New(), "$true", 0, true, api.Sym{}, api.ErrName},
		{sign.New(), "s-k", 9, true, api.Sym{}, api.ErrName},
		{sign.New(), "sk", 7, true, api.Sym{}, api.ErrArity},
		{sign.New(), "sk", -1, false, api.Sym{}, api.ErrArity},
		{sign.New(), names(40), 7, false, api.Sym{}, api.ErrArity},
	} {
		if got, e := sign.Fresh(x.s, x.name, x.arity, x.pred); got != x.want || e != x.e {
			t.Error(i, got, e)
		}
	}
	for want, s := range broken() {
		for _, name := range []string{"sk", "", names(40)} {
			for _, arity := range []int{0, 7} {
				if got, e := sign.Fresh(s, name, arity, true); e != want || got != (api.Sym{}) {
					t.Error(want, got, e)
				}
			}
		}
	}
}

// pool has symbols that may be, some that may not, and some that differ in one thing alone.
func pool() []api.Sym {
	return []api.Sym{truth, fun("f", 1), fun("f", 2), pred("f", 1), fun("sk1", 0), pred("sk2", 3), fun("$true", 0), fun("f", 7), {}}
}

// rows hands out all lists of at most n symbols of the pool.
func rows(n int, out func([]api.Sym)) {
	var walk func(l []api.Sym)
	walk = func(l []api.Sym) {
		out(slices.Clone(l))
		if len(l) < n {
			for _, x := range pool() {
				walk(append(slices.Clone(l), x))
			}
		}
	}
	walk(nil)
}

// right says of one symbol what the chapter says, for symbols of the pool.
func right(x api.Sym) api.Errno {
	switch {
	case x.Name == "" || x.Name == "$true":
		return api.ErrName
	case x.Arity == 7:
		return api.ErrArity
	}
	return api.OK
}

func wantCheck(l []api.Sym) api.Errno {
	if len(l) == 0 || l[0] != truth {
		return api.ErrTrue
	}
	for i := 1; i < len(l); i++ {
		if e := right(l[i]); e != api.OK {
			return e
		}
		if slices.Contains(l[:i], l[i]) {
			return api.ErrSame
		}
	}
	return api.OK
}

func TestCheckOfAllSmallSignatures(t *testing.T) {
	rows(4, func(l []api.Sym) {
		if e := sign.Check(api.Sig{Syms: l}); e != wantCheck(l) {
			t.Error(l, e)
		}
	})
}

// P1.5, of all small lists: what is added is found, what was there keeps its number, again changes nothing.
func TestAddOfAllSmallLists(t *testing.T) {
	for _, s := range []api.Sig{sign.New(), sig(fun("f", 2), pred("f", 1)), sig(some(94)...)} {
		rows(3, func(l []api.Sym) {
			got, e := sign.Add(s, l...)
			if want := wantAdd(s, l); e != want {
				t.Error(l, e, want)
			}
			if e == api.OK {
				added(t, s, l, got)
			}
		})
	}
}

func wantAdd(s api.Sig, l []api.Sym) api.Errno {
	n := len(s.Syms)
	for i, x := range l {
		if e := right(x); e != api.OK && x != truth {
			return e
		}
		if !slices.Contains(s.Syms, x) && !slices.Contains(l[:i], x) {
			n++
		}
	}
	if n > api.MaxSyms {
		return api.ErrLong
	}
	return api.OK
}

func added(t *testing.T, s api.Sig, l []api.Sym, got api.Sig) {
	t.Helper()
	if e := sign.Check(got); e != api.OK {
		t.Error(l, got, e)
	}
	last := len(s.Syms) - 1
	for _, x := range l {
		n, ok := sign.Find(got, x)
		if !ok || n > last+1 {
			t.Error(l, got, x, n, ok)
		}
		last = max(last, n)
	}
	for i, x := range s.Syms {
		if n, ok := sign.Find(got, x); n != i || !ok {
			t.Error(l, got, x, n, ok)
		}
	}
	if last != len(got.Syms)-1 {
		t.Error("more came than was told", l, got)
	}
	if again, e := sign.Add(got, l...); e != api.OK || !sign.Same(again, got) {
		t.Error(l, again, e)
	}
}

// P1.5: what Fresh tells can be added, till the signature is full; then its name is still new.
func TestFreshCanBeAdded(t *testing.T) {
	s := sig(fun("sk2", 0), pred("sk5", 1))
	for len(s.Syms) < api.MaxSyms {
		x, e := sign.Fresh(s, "sk", len(s.Syms)%7, len(s.Syms)%2 == 0)
		if _, ok := sign.Find(s, x); ok || e != api.OK {
			t.Fatal(x, e)
		}
		more, e := sign.Add(s, x)
		if n, ok := sign.Find(more, x); e != api.OK || !ok || n != len(s.Syms) {
			t.Fatal(x, e, n, ok)
		}
		s = more
	}
	x, e := sign.Fresh(s, "sk", 2, false)
	if e != api.OK || x != fun("sk96", 2) {
		t.Error(x, e)
	}
	if _, e := sign.Add(s, x); e != api.ErrLong {
		t.Error(e)
	}
}

// What is handed in is not changed, spare room behind it included, and what is answered shares nothing.
func TestNothingIsSharedOrChanged(t *testing.T) {
	room := append(sig(fun("f", 2), pred("p", 1)).Syms, fun("spare", 0), pred("spare", 1), fun("spare", 2))
	list := []api.Sym{fun("a", 0), truth, fun("f", 2), fun("spare", 0), pred("spare", 1)}
	room0, list0 := slices.Clone(room), slices.Clone(list)
	s := api.Sig{Syms: room[:3]}
	one, _ := sign.Add(s, list[:3]...)
	two, _ := sign.Add(s, list[:3]...)
	none, _ := sign.Add(s)
	sign.Add(s, fun("-", 0))
	sign.Add(s, some(96)...)
	sign.Check(s)
	sign.Find(s, truth)
	sign.Fresh(s, "spare", 1, true)
	for range sign.Symbols(s, true) {
	}
	if !slices.Equal(room, room0) || !slices.Equal(list, list0) {
		t.Fatal("what was handed in is changed", room, list)
	}
	for _, x := range []api.Sig{one, none} {
		l := x.Syms[:cap(x.Syms)]
		for i := range l {
			l[i] = fun("mine", i)
		}
	}
	if !slices.Equal(room, room0) || !slices.Equal(list, list0) || !sign.Same(two, sig(fun("f", 2), pred("p", 1), fun("a", 0))) {
		t.Error("an answer shares memory", room, list, two)
	}
	list[0], room[1] = fun("z", 0), fun("z", 1)
	if !sign.Same(two, sig(fun("f", 2), pred("p", 1), fun("a", 0))) {
		t.Error("an answer keeps what was handed in", two)
	}
}

// The signature's own list may be handed in as what is added.
func TestAddOfItself(t *testing.T) {
	s := sig(fun("f", 2), pred("p", 1))
	if got, e := sign.Add(s, s.Syms...); e != api.OK || !sign.Same(got, s) {
		t.Error(got, e)
	}
}
