package sine_test

import (
	"fmt"
	"math"
	"slices"
	"strings"
	"sync"
	"testing"
	"time"

	"syllogism/api"
	"syllogism/sine"
)

// soon wants it to end.
func soon(t *testing.T, do func()) {
	t.Helper()
	done := make(chan int)
	go func() {
		defer close(done)
		do()
	}()
	select {
	case <-done:
	case <-time.After(60 * time.Second):
		t.Fatal("it does not end")
	}
}

// room is a list with spare room, and something in it.
func room[E any](l []E, change func(E) E, spare E) []E {
	out := make([]E, 0, len(l)+2)
	for _, x := range l {
		out = append(out, change(x))
	}
	return append(out, spare, spare)[:len(l)]
}

func roomy(f api.Form) api.Form {
	var wide func(x api.Expr) api.Expr
	wide = func(x api.Expr) api.Expr {
		return api.Expr{Var: x.Var, Name: x.Name, Args: room(x.Args, wide, api.Expr{Name: "spare"})}
	}
	return api.Form{
		Op:    f.Op,
		Vars:  room(f.Vars, func(s string) string { return s }, "Spare"),
		Terms: room(f.Terms, wide, api.Expr{Name: "spare"}),
		Args:  room(f.Args, roomy, api.Form{Op: api.FormFalse}),
	}
}

func roomyEntries(l []api.Entry) []api.Entry {
	return room(l, func(x api.Entry) api.Entry {
		x.Form = roomy(x.Form)
		return x
	}, entry("conjecture", "spare"))
}

// show tells entries with all their spare room.
func show(l []api.Entry) string {
	var b strings.Builder
	var exprs func(l []api.Expr)
	exprs = func(l []api.Expr) {
		for _, x := range l[:cap(l)] {
			fmt.Fprint(&b, x.Var, x.Name, "(")
			exprs(x.Args)
			b.WriteString(")")
		}
	}
	var one func(f api.Form)
	one = func(f api.Form) {
		fmt.Fprint(&b, f.Op, f.Vars[:cap(f.Vars)], "[")
		exprs(f.Terms)
		b.WriteString("|")
		for _, g := range f.Args[:cap(f.Args)] {
			one(g)
		}
		b.WriteString("]")
	}
	for _, x := range l[:cap(l)] {
		fmt.Fprint(&b, x.Cnf, x.Name, x.Role)
		one(x.Form)
	}
	return b.String()
}

func sample() []api.Entry {
	return asked("a = a & s", "p(a) & ! [X,Y] : (q(X,f(Y)) => X = Y)", "p(b) & q", "q & r", "s", "$true", "s & q & p(c)")
}

const commonOfSample = "p/1! 3, a/0 1, q/2! 1, f/1 1, b/0 1, q/0! 3, r/0! 1, s/0! 2, c/0 1"

// TestNothingIsChanged: neither in what is handed in, nor behind it; what stands behind a list is not looked at.
func TestNothingIsChanged(t *testing.T) {
	l := roomyEntries(sample())
	before := show(l)
	hasCommon(t, commonOfSample, l...)
	chooses(t, l, 10, 0, 0, 3, 4, 6)
	chooses(t, l, 20, 0, 0, 3, 4, 5, 6)
	chooses(t, l, 30, 1, 0, 3, 4, 5, 6)
	chooses(t, l, 30, 0, 0, 1, 2, 3, 4, 5, 6)
	chooses(t, l, 0, 0, 0, 1, 2, 3, 4, 5, 6)
	chooses(t, l[:0], 10, 0)
	chooses(t, l[:2], 10, 0, 0, 1)
	refuses(t, l, 1001, 0)
	if after := show(l); after != before {
		t.Error(after)
	}
}

// TestAnswersAreOnesOwn: what the caller does to one changes nothing in another one, nor in a later one.
func TestAnswersAreOnesOwn(t *testing.T) {
	l := sample()
	symbols, n := sine.Common(l)
	otherSymbols, otherN := sine.Common(l)
	keptSymbols, keptN := slices.Clone(otherSymbols), slices.Clone(otherN)
	clear(symbols[:cap(symbols)])
	clear(n[:cap(n)])
	if !slices.Equal(otherSymbols, keptSymbols) || !slices.Equal(otherN, keptN) {
		t.Error(otherSymbols, otherN)
	}
	hasCommon(t, commonOfSample, l...)
	for _, tolerance := range []int{0, 10, 30} {
		one, other := chosen(t, l, tolerance, 0), chosen(t, l, tolerance, 0)
		kept := slices.Clone(other)
		clear(one[:cap(one)])
		if !slices.Equal(other, kept) {
			t.Error(other, kept)
		}
		chooses(t, l, tolerance, 0, kept...)
	}
}

// TestTheSameAgain: nothing is kept from call to call, nor between those that go on at the same time.
func TestTheSameAgain(t *testing.T) {
	l, other := sample(), asked("p0", chain(30)...)
	var going sync.WaitGroup
	for range 8 {
		going.Go(func() {
			for range 50 {
				hasCommon(t, commonOfSample, l...)
				chooses(t, l, 20, 0, 0, 3, 4, 5, 6)
				chooses(t, other, 20, 0, upTo(31)...)
				chooses(t, l, 10, 0, 0, 3, 4, 6)
				chooses(t, other, 20, 3, 0, 1, 2, 30)
				refuses(t, l, 9, 1)
			}
		})
	}
	going.Wait()
}

func TestNilAndEmpty(t *testing.T) {
	for _, l := range [][]api.Entry{nil, {}, make([]api.Entry, 0, 3)} {
		hasCommon(t, "", l...)
		chooses(t, l, 0, 0)
		chooses(t, l, 10, 0)
		chooses(t, l, 1000, 3)
	}
	hasCommon(t, "", api.Entry{}, api.Entry{})
	chooses(t, []api.Entry{{}, {}}, 10, 1, 0, 1)
	chooses(t, []api.Entry{{}, {Role: "conjecture"}, {}}, 10, 1, 0, 1, 2)
	empty := api.Form{Op: api.FormTrue, Vars: []string{}, Terms: []api.Expr{}, Args: []api.Form{}}
	chooses(t, []api.Entry{{Form: empty}, {Role: "conjecture", Form: empty}, entry("axiom", "p")}, 10, 0, 0, 1)
}

// TestFarBeyondTheLimits: all calls end, of more entries, symbols and rounds than there may be.
func TestFarBeyondTheLimits(t *testing.T) {
	soon(t, func() {
		const n = 50000
		long := asked("p0", chain(n)...)
		chooses(t, long, 20, 0, upTo(n+1)...)
		chooses(t, long, 20, math.MaxInt, upTo(n+1)...)
		chooses(t, long, 20, n, upTo(n+1)...)
		chooses(t, long, 20, n-1, append(upTo(n-1), n)...)
		hasCommon(t, common(long[:n]), long...)
		many := append(times("p & q", n), entry("conjecture", "p"))
		many = append(many, times("q", n)...)
		chooses(t, many, 20, 1, upTo(2*n + 1)[:n+1]...)
		chooses(t, many, 20, 0, upTo(2*n+1)...)
		var wide []api.Form
		for i := range n {
			wide = append(wide, api.Form{Op: api.FormAtom, Terms: []api.Expr{{Name: fmt.Sprint("p", i)}}})
		}
		one := api.Entry{Form: api.Form{Op: api.FormAnd, Args: wide}}
		// The last link's new symbol stands in it alone, the other one in the wide ones, too.
		chooses(t, append(long, one), 10, 0, slices.Concat(upTo(n-1), []int{n, n + 1})...)
		chooses(t, append(long, one), 30, 0, upTo(n+2)...)
		chooses(t, append(long, one, one), 39, 0, slices.Concat(upTo(n-1), []int{n, n + 1, n + 2})...)
		chooses(t, append(long, one, one), 40, 0, upTo(n+3)...)
	})
}

// TestDeepAndShared: a formula that is nested in itself far deeper than it may, or far larger than what it lies in.
func TestDeepAndShared(t *testing.T) {
	soon(t, func() {
		deep, shared := parsed("p(a)"), parsed("q(b)")
		for range 60000 {
			deep = api.Form{Op: api.FormNot, Args: []api.Form{deep}}
		}
		for range 100 {
			shared = api.Form{Op: api.FormOr, Args: []api.Form{shared, shared}}
		}
		l := []api.Entry{{Form: deep}, {Form: shared}, {Role: "conjecture", Form: deep}, {Role: "negated_conjecture", Form: shared}}
		hasCommon(t, "p/1! 1, a/0 1, q/1! 1, b/0 1", l...)
		chooses(t, l, 10, 0, 0, 1, 2, 3)
		chooses(t, l[:3], 10, 0, 0, 2)
	})
}
