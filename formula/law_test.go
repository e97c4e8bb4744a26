package formula_test

import (
	"math/rand"
	"slices"
	"strings"
	"testing"

	"syllogism/api"
	"syllogism/formula"
)

// laws holds P13.7 and P13.8 of a formula that may be, whose text is no longer than a text may be.
func laws(t *testing.T, f api.Form) {
	t.Helper()
	text, e := formula.Text(f)
	if e != api.OK || text != plainText(f) {
		t.Errorf("%s: %q %v", show(f), text, e)
	}
	g, at, e := formula.Parse(text)
	if e != api.OK || at != 0 || !formula.Same(f, g) || !same(f, g) {
		t.Errorf("%q: %s %d %v, not %s", text, show(g), at, e, show(f))
	}
	if again, e := formula.Text(g); again != text || e != api.OK {
		t.Errorf("%q: %q %v", text, again, e)
	}
	heldTree(t, f)
	n := 0
	for g := range formula.Parts(f) {
		n += 1 + len(g.Vars)
		for _, x := range g.Terms {
			n += plainTermSize(x)
		}
	}
	if formula.Size(f) != n {
		t.Errorf("%s: %d, not %d", show(f), formula.Size(f), n)
	}
	if l := formula.Free(f); len(l) > 0 {
		free(t, api.Form{Op: api.FormAll, Vars: l, Args: []api.Form{f}})
		free(t, api.Form{Op: api.FormSome, Vars: l, Args: []api.Form{f}})
		free(t, api.Form{Op: api.FormAll, Vars: l[1:], Args: []api.Form{f}}, l[0])
	}
}

// small are all formulas of a size, with few names; of each kind one or two.
type small struct {
	terms map[int][]api.Expr
	forms map[int][]api.Form
}

func (s *small) termsOf(size int) []api.Expr {
	if l, ok := s.terms[size]; ok {
		return l
	}
	var l []api.Expr
	if size == 1 {
		l = []api.Expr{v("X"), v("Y"), of("a"), of("X")}
	}
	for n := range size {
		for _, x := range s.termsOf(n) {
			if n == size-1 {
				l = append(l, of("f", x))
			} else {
				for _, y := range s.termsOf(size - 1 - n) {
					l = append(l, of("f", x, y))
				}
			}
		}
	}
	s.terms[size] = l
	return l
}

func (s *small) formsOf(size int) []api.Form {
	if l, ok := s.forms[size]; ok {
		return l
	}
	var l []api.Form
	if size == 1 {
		l = []api.Form{yes(), no()}
	}
	if size == 2 {
		l = []api.Form{atom("p"), atom("Q")}
	}
	if size > 2 {
		for _, x := range s.termsOf(size - 2) {
			l = append(l, atom("p", x))
		}
	}
	for n := 1; n < size-1; n++ {
		for _, x := range s.termsOf(n) {
			for _, y := range s.termsOf(size - 1 - n) {
				l = append(l, eq(x, y))
			}
		}
	}
	if size > 1 {
		for _, f := range s.formsOf(size - 1) {
			l = append(l, not(f))
		}
	}
	if size > 2 {
		for _, f := range s.formsOf(size - 2) {
			l = append(l, all("X", f), some("X", f), all("Y", f))
		}
	}
	if size > 3 {
		for _, f := range s.formsOf(size - 3) {
			l = append(l, all("Y X", f), some("X Y", f))
		}
	}
	l = append(l, s.joined(size-1)...)
	s.forms[size] = l
	return l
}

// joined are those of two parts, and some of three.
func (s *small) joined(size int) []api.Form {
	var l []api.Form
	for n := 1; n < size; n++ {
		for _, f := range s.formsOf(n) {
			for _, g := range s.formsOf(size - n) {
				l = append(l, and(f, g), or(f, g), implies(f, g), iff(f, g), xor(f, g))
			}
			for m := 1; m < size-n; m++ {
				for _, g := range s.formsOf(m) {
					for _, h := range s.formsOf(size - n - m) {
						l = append(l, and(f, g, h), or(f, g, h))
					}
				}
			}
		}
	}
	return l
}

// TestSmallFormulas: all of them.
func TestSmallFormulas(t *testing.T) {
	s := &small{map[int][]api.Expr{0: nil}, map[int][]api.Form{}}
	n := 0
	seen := map[string]int{}
	for size := 1; size <= 6; size++ {
		for _, f := range s.formsOf(size) {
			if formula.Size(f) != size {
				t.Fatal(show(f))
			}
			laws(t, f)
			text, _ := formula.Text(f)
			seen[text]++
			n++
		}
	}
	if len(seen) != n || n < 10000 {
		t.Error(n, len(seen))
	}
}

// TestLargeFormulas: at hazard, with many shapes; and what is parsed of what is written at hazard.
func TestLargeFormulas(t *testing.T) {
	r := rand.New(rand.NewSource(135))
	n, large := 0, 0
	for range 6000 {
		f := strange(r, 2+r.Intn(6), false)
		if plainCheck(f) != api.OK {
			continue
		}
		laws(t, f)
		n++
		if plainSize(f) > 100 {
			large++
		}
	}
	w := writer{r}
	for range 3000 {
		s := w.formula(w.Intn(6))
		f, _, e := formula.Parse(s.text)
		if e != api.OK {
			continue
		}
		laws(t, f)
		n++
	}
	if n < 5000 || large < 300 {
		t.Error(n, large)
	}
}

// TestLargestFormulas: of the greatest size, depth and number of arguments there may be.
func TestLargestFormulas(t *testing.T) {
	six := of("f", many(6, v("X"))...)
	wide := of("g", many(6, of("g", many(6, six)...))...)
	names := strings.Fields("A B C D E F G H I J K L M N O P Q R S T U V W X Y Z")
	deep := atom("p", v("X"), v("Y"), v("Z"))
	for i := range 29 {
		deep = []api.Form{not(deep), all(names[i%26], deep), and(deep, yes()), implies(no(), deep), iff(deep, eq(v("X"), v("B")))}[i%5]
	}
	for _, f := range []api.Form{
		and(many(299, yes())...), or(many(149, atom("a"))...), eq(wide, of("g", many(5, six)...)), deny(30, atom("p", nest(29, v("X")))), deny(30, eq(nest(30, v("X")), nest(30, of("a")))), deep,
		{Op: api.FormAll, Vars: names, Args: []api.Form{and(many(40, atom("p", six.Args[:4]...))...)}},
		and(many(8, api.Form{Op: api.FormSome, Vars: names, Args: []api.Form{atom("p", six.Args...)}})...),
	} {
		laws(t, f)
	}
}

// TestSymbolsOfWhatIsRead: in the order of the formula, not of its text.
func TestSymbolsOfWhatIsRead(t *testing.T) {
	f, _, _ := formula.Parse("! [X] : (p(f(X,a)) <= (q & X != f(g(b),'X'))) ~| p")
	var got []string
	for _, s := range formula.Symbols(f) {
		got = append(got, s.Name)
	}
	if !slices.Equal(got, strings.Fields("q f g b X p a p")) {
		t.Error(got)
	}
}
