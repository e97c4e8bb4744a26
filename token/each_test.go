package token_test

import (
	"slices"
	"strings"
	"sync"
	"testing"

	"syllogism/api"
	"syllogism/token"
)

// TestEachLeftEarly: behind any token; it may be gone over again, and then tells all.
func TestEachLeftEarly(t *testing.T) {
	for _, text := range []string{"p(X) <=> ~ q", "", "  ", "a", "a # b", "'q' $t 12 /* */ <= X % end", "a b " + strings.Repeat("c", 41)} {
		each := token.Each(text)
		want := collect(text)
		for n := range len(want) + 1 {
			var got []api.Token
			for x := range each {
				got = append(got, x)
				if len(got) == n {
					break
				}
			}
			if n == 0 {
				n = len(want)
			}
			if !slices.Equal(got, want[:n]) {
				t.Errorf("%q up to %d: %v", text, n, got)
			}
		}
		for range 3 {
			if got := slices.Collect(each); !slices.Equal(got, want) {
				t.Errorf("%q again: %v", text, got)
			}
		}
	}
}

// TestEachIsNotAskedAgain: who says that he has enough hears no more.
func TestEachIsNotAskedAgain(t *testing.T) {
	for stop := range 8 {
		n := 0
		token.Each("p(X) <=> ~ q")(func(api.Token) bool {
			n++
			return n <= stop
		})
		if n != min(stop+1, 8) {
			t.Error(stop, n)
		}
	}
}

// TestEachWithinItself: what is going on hangs on no other going over.
func TestEachWithinItself(t *testing.T) {
	each := token.Each("a (b) 'c'")
	want := collect("a (b) 'c'")
	i := 0
	for x := range each {
		if x != want[i] {
			t.Error(i, x)
		}
		i++
		if got := slices.Collect(each); !slices.Equal(got, want) {
			t.Error(got)
		}
	}
	var all sync.WaitGroup
	for range 8 {
		all.Go(func() {
			if got := slices.Collect(each); !slices.Equal(got, want) {
				t.Error(got)
			}
		})
	}
	all.Wait()
}

// TestEachUpToAFault: what stands ahead of the fault is told, and the end is not; so of Cut nothing.
func TestEachUpToAFault(t *testing.T) {
	ab := []api.Token{lower(0, "a"), upper(2, "B")}
	for text, e := range map[string]api.Errno{
		"a B #": api.ErrToken, "a B $": api.ErrToken, "a B '": api.ErrToken, "a B ''": api.ErrToken, "a B /*": api.ErrToken, "a B \x00 c": api.ErrToken,
		"a B " + strings.Repeat("c", 41): api.ErrLong, "a B " + strings.Repeat("7", 41) + " #": api.ErrLong, "a B '" + strings.Repeat("c", 41) + "'": api.ErrLong,
	} {
		faulty(t, text, 4, e, ab...)
	}
	if got := collect(strings.Repeat("a", 8001)); got != nil {
		t.Error(got)
	}
	if got := collect("a B" + strings.Repeat(" ", 7998)); got != nil {
		t.Error(got)
	}
}

// TestAnswersAreApart: what the caller does to one list changes no other one, spare room included.
func TestAnswersAreApart(t *testing.T) {
	const text = "p(X) <=> ~ q"
	one, _, _ := token.Cut(text)
	two, _, _ := token.Cut(text)
	for i := range one[:cap(one)] {
		one[:cap(one)][i] = number(99, "9")
	}
	cuts(t, text, two...)
	if len(two) != 8 || two[0] != lower(0, "p") || two[7] != end(12) {
		t.Error(two)
	}
}
