package lpo_test

import (
	"testing"
	"time"

	"syllogism/api"
	"syllogism/term"
)

// soon wants an end: what goes over pairs of parts anew each time comes to none.
func soon(t *testing.T, do func()) {
	t.Helper()
	done := make(chan struct{})
	go func() {
		defer close(done)
		do()
	}()
	select {
	case <-done:
	case <-time.After(2 * time.Minute):
		t.Fatal("no end")
	}
}

type wrap func(api.Term) api.Term

// wraps put a term into others, once or several times.
func wraps() []wrap {
	return []wrap{
		func(t api.Term) api.Term { return of(g, t) },
		func(t api.Term) api.Term { return of(f, t, x(1)) },
		func(t api.Term) api.Term { return of(f, x(1), t) },
		func(t api.Term) api.Term { return of(m, of(a), t) },
		func(t api.Term) api.Term { return of(f, of(g, t), of(h, of(b))) },
		func(t api.Term) api.Term { return of(f, t, t) },
		func(t api.Term) api.Term { return of(m, t, of(g, t)) },
		func(t api.Term) api.Term { return of(f, of(g, t), of(g, t)) },
		func(t api.Term) api.Term { return of(m, of(h, t), t) },
	}
}

// grown wraps a term as often as the signature's terms may be large and deep.
func grown(sig api.Sig, t api.Term, w wrap) api.Term {
	for next := t; term.Check(sig, next) == api.OK; next = w(next) {
		t = next
	}
	return t
}

// TestAsDeepAsMayBe: terms of the same parts again and again, by all pairs of ways, against the second way.
func TestAsDeepAsMayBe(t *testing.T) {
	soon(t, func() {
		deepest, largest := 0, 0
		for i, one := range wraps() {
			for _, two := range wraps()[i:] {
				for _, ends := range [][2]api.Term{{of(a), of(b)}, {of(b), of(a)}, {x(0), x(1)}, {x(0), x(0)}} {
					s, u := grown(signature(), ends[0], one), grown(signature(), ends[1], two)
					deepest, largest = max(deepest, term.Depth(s)), max(largest, term.Size(s))
					held(t, i, byNumber(), s, u)
					held(t, i, byNumber(), of(h, s), of(f, u, s))
				}
			}
		}
		if deepest < api.MaxDepth || largest < api.MaxSize/2 {
			t.Error(deepest, largest)
		}
	})
}

// TestSamePartsAgain: of terms far beyond what may be, of just a few parts that are not the same.
func TestSamePartsAgain(t *testing.T) {
	many := func(n int, t api.Term, w wrap) api.Term {
		for range n {
			t = w(t)
		}
		return t
	}
	twice := func(t api.Term) api.Term { return of(f, of(g, t), of(g, t)) }
	once := func(t api.Term) api.Term { return of(f, t, of(g, t)) }
	soon(t, func() {
		wants(t, byNumber(),
			stand{many(18, of(a), twice), many(18, of(b), once), api.RelLess},
			stand{many(18, x(0), twice), many(18, x(1), once), api.RelNone},
			stand{many(16, of(a), once), many(16, of(b), once), api.RelLess},
			stand{many(16, x(0), once), many(16, x(1), once), api.RelNone},
			stand{many(16, x(0), twice), many(16, x(0), once), api.RelGreater})
	})
}

// TestDeepAndWide: what lies far deeper, or wider, than may be, and differs at its end.
func TestDeepAndWide(t *testing.T) {
	deep := func(s api.Term) api.Term {
		for range 10000 {
			s = of(g, of(f, of(h, s), x(1)))
		}
		return s
	}
	wide := func(s api.Term) api.Term {
		args := make([]api.Term, 100000)
		for i := range args {
			args[i] = of(g, x(0))
		}
		args[len(args)-1] = s
		return of(m, args...)
	}
	turned := func(k int) api.Term {
		s := of(a)
		for i := range 10000 {
			s = of(f, x(i*k%10000), s)
		}
		return s
	}
	soon(t, func() {
		wants(t, byNumber(),
			stand{deep(of(a)), deep(of(b)), api.RelLess},
			stand{deep(of(a)), deep(of(a)), api.RelEqual},
			stand{deep(x(0)), deep(x(2)), api.RelNone},
			stand{deep(of(f, x(0), x(2))), deep(x(0)), api.RelGreater},
			stand{of(g, deep(x(0))), deep(x(0)), api.RelGreater},
			stand{nest(20000, g, x(0)), nest(20000, h, x(1)), api.RelNone},
			stand{nest(20000, g, x(0)), nest(20000, h, x(0)), api.RelLess},
			stand{nest(20000, g, of(b)), nest(10000, g, of(b)), api.RelGreater},
			stand{nest(20000, g, of(a)), nest(10000, g, of(b)), api.RelGreater},
			stand{wide(of(a)), wide(of(b)), api.RelLess},
			stand{wide(of(g, x(0))), wide(of(h, x(0))), api.RelLess},
			stand{wide(x(0)), wide(of(b)), api.RelNone},
			stand{turned(1), turned(3), api.RelNone},
			stand{of(g, turned(1)), turned(3), api.RelGreater},
			stand{turned(7), turned(7), api.RelEqual})
	})
}
