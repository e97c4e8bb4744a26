package fprint_test

import (
	"math"
	"runtime"
	"slices"
	"testing"
	"time"

	"syllogism/api"
	"syllogism/fprint"
)

// soon wants it to end.
func soon(t *testing.T, do func()) {
	t.Helper()
	done := make(chan int)
	go func() {
		defer close(done)
		do()
	}()
	select {
	case <-done:
	case <-time.After(60 * time.Second):
		t.Fatal("it does not end")
	}
}

// spoil writes into all of a term, spare room included.
func spoil(u *api.Term) {
	u.Fun = 99
	full := u.Args[:cap(u.Args)]
	for i := range full {
		spoil(&full[i])
	}
}

// roomy is a term with spare room behind all its arguments, and something in it.
func roomy(u api.Term) api.Term {
	l := make([]api.Term, 0, len(u.Args)+2)
	for _, c := range u.Args {
		l = append(l, roomy(c))
	}
	l = append(l, of(7, of(8)), x(9))
	return api.Term{Fun: u.Fun, Args: l[:len(u.Args)]}
}

// whole shows a term with the spare room behind all arguments.
func whole(u api.Term) string {
	var bare func(u api.Term) api.Term
	bare = func(u api.Term) api.Term {
		out := api.Term{Fun: u.Fun}
		for _, c := range u.Args[:cap(u.Args)] {
			out.Args = append(out.Args, bare(c))
		}
		return out
	}
	return show(bare(u))
}

// TestNilAndZero: a zero index, which New has not made, is as a nil one.
func TestNilAndZero(t *testing.T) {
	var none *fprint.Index
	for _, n := range []*fprint.Index{none, {}, new(fprint.Index)} {
		for range 2 {
			for _, u := range append(strangeTerms(), api.Term{}, of(a), x(0)) {
				for _, id := range []int{0, 1, math.MaxInt, -1, math.MinInt} {
					if e := n.Add(u, id); e != api.ErrNil {
						t.Error("Add", show(u), id, e)
					}
					misses(t, n, pair{u, id})
				}
				all(t, n, u)
				has(t, n, 0)
			}
		}
	}
}

// TestNothingIsChanged: neither in what is handed in, nor behind it; what stands behind arguments is not looked at.
func TestNothingIsChanged(t *testing.T) {
	for _, plain := range append(smallTerms(), strangeTerms()...) {
		u := roomy(plain)
		before := whole(u)
		n := fprint.New()
		add(t, n, pair{u, 1}, pair{u, 1})
		all(t, n, u, 1)
		all(t, n, plain, 1)
		deletes(t, n, pair{u, 1}, pair{plain, 1})
		misses(t, n, pair{u, 1})
		if !fprint.May(u, plain) || !fprint.May(plain, u) {
			t.Error("May", show(plain))
		}
		if after := whole(u); after != before {
			t.Error(before, after)
		}
	}
}

// TestTermsAreNotKept: what the caller writes into his term behind Add changes nothing in the index.
func TestTermsAreNotKept(t *testing.T) {
	terms := append(smallTerms(), strangeTerms()...)
	n := fprint.New()
	for id, plain := range terms {
		u := roomy(plain)
		add(t, n, pair{u, id})
		spoil(&u)
		misses(t, n, pair{u, id})
	}
	other := index(t)
	for id, u := range terms {
		add(t, other, pair{u, id})
	}
	for id, plain := range terms {
		u := roomy(plain)
		unifies(t, n, plain, other.Unify(u)...)
		general(t, n, plain, other.General(u)...)
		instances(t, n, plain, other.Instances(u)...)
		spoil(&u)
		deletes(t, n, pair{plain, id})
		deletes(t, other, pair{plain, id})
	}
	empty(t, n, terms...)
}

// TestAnswersAreOnesOwn: what the caller writes into one changes nothing in another one, in a later one, nor in the index.
func TestAnswersAreOnesOwn(t *testing.T) {
	n := index(t, numbered(of(f, x(0), of(a)), of(f, of(a), x(0)), x(0), of(a), x(1), of(f, x(2), x(3)))...)
	for _, u := range []api.Term{x(0), of(f, x(0), x(1)), of(f, of(a), of(a)), of(a), of(b)} {
		for _, ask := range []func(api.Term) []int{n.Unify, n.General, n.Instances} {
			one, other := ask(u), ask(u)
			want := slices.Clone(other)
			full := one[:cap(one)]
			for i := range full {
				full[i] = -7
			}
			one = append(one[:0], 99, 98)
			tells(t, "another one", u, other, want...)
			tells(t, "a later one", u, ask(u), want...)
			if spare := other[len(other):cap(other)]; slices.Contains(spare, -7) || slices.Contains(spare, 99) {
				t.Error(spare, one)
			}
		}
	}
	has(t, n, 6)
	unifies(t, n, x(0), 1, 2, 3, 4, 5, 6)
}

// TestAskingChangesNothing: neither does a call that answers an error, or false.
func TestAskingChangesNothing(t *testing.T) {
	l := numbered(smallTerms()...)
	n, other := index(t, l...), index(t, l...)
	for _, u := range strangeTerms() {
		n.Unify(u)
		n.General(u)
		n.Instances(u)
		if e := n.Add(u, -1); e != api.ErrArg {
			t.Error(e)
		}
		misses(t, n, pair{u, 0}, pair{u, -1})
	}
	for _, p := range l {
		unifies(t, n, p.t, other.Unify(p.t)...)
		general(t, n, p.t, other.General(p.t)...)
		instances(t, n, p.t, other.Instances(p.t)...)
	}
	deletes(t, n, l...)
	empty(t, n)
}

// TestEmptyArguments: nil and empty mean the same.
func TestEmptyArguments(t *testing.T) {
	one := api.Term{Fun: f, Args: []api.Term{{Fun: a}, {Fun: -1}}}
	other := api.Term{Fun: f, Args: []api.Term{{Fun: a, Args: []api.Term{}}, {Fun: -1, Args: make([]api.Term, 0, 3)}}}
	n := index(t, pair{one, 1}, pair{other, 1}, pair{other, 2})
	all(t, n, one, 1, 2)
	all(t, n, other, 1, 2)
	deletes(t, n, pair{one, 1}, pair{one, 1}, pair{one, 2})
	misses(t, n, pair{other, 1}, pair{other, 2})
	empty(t, n)
}

// TestFarBeyondTheLimits: all calls end, of far deeper and wider terms than may be, and of many.
func TestFarBeyondTheLimits(t *testing.T) {
	soon(t, func() {
		deep, other := nest(60000, of(a)), nest(60000, of(b))
		wide := of(h, slices.Repeat([]api.Term{x(0), deep}, 3)...)
		var flat []api.Term
		for i := range 200000 {
			flat = append(flat, of(i))
		}
		broad := of(h, flat...)
		n := index(t, pair{deep, 1}, pair{wide, 2}, pair{broad, 3}, pair{x(0, broad, deep), 4})
		unifies(t, n, other, 1, 4)
		unifies(t, n, of(h, x(0), x(1), x(2)), 2, 3, 4)
		unifies(t, n, x(0), 1, 2, 3, 4)
		misses(t, n, pair{other, 1}, pair{nest(59999, of(a)), 1}, pair{of(h, flat[:199999]...), 3})
		deletes(t, n, pair{deep, 1}, pair{wide, 2}, pair{broad, 3}, pair{x(0, broad, deep), 4})
		empty(t, n, deep, wide, broad)
		if !fprint.May(deep, other) || fprint.May(deep, broad) {
			t.Error("May")
		}
	})
}

// TestMany: of many terms with one id and one print, with many symbols, with many ids, each call looks at few.
func TestMany(t *testing.T) {
	soon(t, func() {
		const many = 30000
		n := fprint.New()
		var l []pair
		for i := range many {
			l = append(l, pair{nest(4, x(i)), 7}, pair{of(10 + i), 8}, pair{of(f, of(10+i), x(0)), i})
		}
		add(t, n, l...)
		for i := range many {
			all(t, n, of(10+i), 8)
			general(t, n, of(f, x(0), of(a)))
			general(t, n, x(0))
			unifies(t, n, of(f, of(10+i), of(a)), i)
		}
		all(t, n, nest(4, x(0)), 7)
		deletes(t, n, l...)
		empty(t, n)
	})
}

// TestNothingIsKept: what was in and is not any more takes no room.
func TestNothingIsKept(t *testing.T) {
	room := func() int64 {
		var m runtime.MemStats
		runtime.GC()
		runtime.GC()
		runtime.ReadMemStats(&m)
		return int64(m.HeapAlloc)
	}
	n := fprint.New()
	var before int64
	for round := range 12 {
		for i := range 5000 {
			k := 10 + 5000*round + i
			p := pair{of(k, of(k, x(0), of(k)), of(k, of(k))), k}
			add(t, n, p)
			deletes(t, n, p)
		}
		if round == 1 {
			before = room()
		}
	}
	if more := room() - before; more > 4<<20 {
		t.Error(more)
	}
	empty(t, n)
}
