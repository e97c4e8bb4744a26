package formula_test

import (
	"maps"
	"math/rand"
	"slices"
	"strings"
	"testing"

	"syllogism/api"
	"syllogism/formula"
	"syllogism/token"
)

// grammar is the chapter's, with what it repeats as rules of its own, and a term alone that is no X. What no rule is named stands for a token.
func grammar() map[string][]string {
	return map[string][]string{
		"formula":  {"unit", "unit & unit ands", "unit | unit ors", "unit op unit"},
		"ands":     {"", "& unit ands"},
		"ors":      {"", "| unit ors"},
		"op":       {"=>", "<=", "<=>", "<~>", "~|", "~&"},
		"unit":     {"~ unit", "quantity [ X vars ] : unit", "( formula )", "$true", "$false", "term = term", "term != term", "function"},
		"quantity": {"!", "?"},
		"vars":     {"", ", X vars"},
		"term":     {"X", "function"},
		"function": {"name", "name ( term terms )"},
		"terms":    {"", ", term terms"},
	}
}

// machine follows all ways at once in which tokens may be a formula's beginning: a way is what must still come, as words.
type machine struct {
	rules map[string][]string
	known map[string][]string
}

// ways are those that a way becomes, if its first word is taken by rules till it is a token's; with the one that is at its end.
func (m *machine) ways(way string) []string {
	if l, ok := m.known[way]; ok {
		return l
	}
	first, rest, _ := strings.Cut(way, " ")
	l := []string{way}
	if rules, ok := m.rules[first]; ok {
		l = nil
		for _, r := range rules {
			l = append(l, m.ways(strings.TrimSpace(r+" "+rest))...)
		}
		slices.Sort(l)
		l = slices.Compact(l)
	}
	m.known[way] = l
	return l
}

// fits: is the token one that the word stands for?
func fits(word string, x api.Token) bool {
	switch word {
	case "":
		return false
	case "X":
		return x.Kind == api.TokUpper
	case "name":
		return x.Kind == api.TokLower || x.Kind == api.TokQuoted && token.Name(x.Text)
	case "$true", "$false":
		return x.Kind == api.TokDollar && x.Text == word
	}
	return x.Kind == api.TokSign && x.Text == word
}

// behind are the ways behind one more token.
func (m *machine) behind(ways []string, x api.Token) []string {
	out := map[string]int{}
	for _, way := range ways {
		for _, w := range m.ways(way) {
			if first, rest, _ := strings.Cut(w, " "); fits(first, x) {
				out[rest]++
			}
		}
	}
	return slices.Sorted(maps.Keys(out))
}

// whole: is one of the ways at its end?
func (m *machine) whole(ways []string) bool {
	return slices.ContainsFunc(ways, func(way string) bool { return slices.Contains(m.ways(way), "") })
}

func newMachine() *machine { return &machine{rules: grammar(), known: map[string][]string{}} }

// alphabet is a token of each kind and text that matters; the last ones stand nowhere.
func alphabet() []api.Token {
	l := []api.Token{{Kind: api.TokLower, Text: "a"}, {Kind: api.TokQuoted, Text: "B"}, {Kind: api.TokUpper, Text: "X"}, {Kind: api.TokDollar, Text: "$true"}, {Kind: api.TokDollar, Text: "$false"}}
	for _, s := range strings.Fields("( ) [ ] , : & | ~ ! ? = != => <= <=> <~> ~| ~&") {
		l = append(l, api.Token{Kind: api.TokSign, Text: s})
	}
	return append(l, api.Token{Kind: api.TokQuoted, Text: "b c"}, api.Token{Kind: api.TokDollar, Text: "$i"}, api.Token{Kind: api.TokNumber, Text: "1"}, api.Token{Kind: api.TokSign, Text: "."}, api.Token{Kind: api.TokEnd})
}

// TestReadByTheGrammar: of all beginnings of formulas up to some tokens, with each token behind: what the grammar takes no further is either behind a formula or the token that can't stand there.
func TestReadByTheGrammar(t *testing.T) {
	m := newMachine()
	count := map[bool]int{}
	var from func(l []api.Token, ways []string, more int)
	from = func(l []api.Token, ways []string, more int) {
		whole := m.whole(ways)
		count[whole]++
		told(t, l, len(l), whole)
		for _, x := range alphabet() {
			next := m.behind(ways, x)
			longer := append(l[:len(l):len(l)], x)
			switch {
			case len(next) == 0:
				told(t, longer, len(l), whole)
				told(t, append(longer, x, alphabet()[0]), len(l), whole)
			case more > 0:
				from(longer, next, more-1)
			}
		}
	}
	for _, x := range alphabet() {
		if next := m.behind([]string{"formula"}, x); len(next) > 0 {
			from([]api.Token{x}, next, 4)
		} else {
			told(t, []api.Token{x, x}, 0, false)
		}
	}
	if count[true] < 2000 || count[false] < 9000 {
		t.Error(count)
	}
}

// told wants a formula up to a token, or a fault there, or at the last one.
func told(t *testing.T, l []api.Token, at int, whole bool) {
	t.Helper()
	f, next, e := formula.Read(l, 0)
	switch {
	case whole && e == api.ErrArg && next == 0 && strings.Contains(words(l), "X , X"):
	case whole && (e != api.OK || next != at), !whole && (e != api.ErrForm || next != min(at, len(l)-1)), !whole && !zero(f):
		t.Errorf("%s: %s next %d %v, not %d %v", words(l), show(f), next, e, at, whole)
	}
}

// sentence is a formula and how it is written, as the grammar lets.
type sentence struct {
	text string
	f    api.Form
}

// writer writes formulas at hazard, and what they are.
type writer struct{ *rand.Rand }

func (w writer) formula(depth int) sentence {
	u := w.unit(depth)
	switch n := w.Intn(12); {
	case n < 3:
		return u
	case n < 7:
		l, texts := []api.Form{u.f}, []string{u.text}
		for range 1 + w.Intn(3) {
			u := w.unit(depth)
			l, texts = append(l, u.f), append(texts, u.text)
		}
		if n < 5 {
			return sentence{strings.Join(texts, " & "), and(l...)}
		}
		return sentence{strings.Join(texts, " | "), or(l...)}
	}
	v := w.unit(depth)
	i := w.Intn(6)
	f := []api.Form{implies(u.f, v.f), implies(v.f, u.f), iff(u.f, v.f), xor(u.f, v.f), not(or(u.f, v.f)), not(and(u.f, v.f))}[i]
	return sentence{u.text + " " + grammar()["op"][i] + " " + v.text, f}
}

func (w writer) unit(depth int) sentence {
	n := w.Intn(11)
	if depth <= 0 {
		n = 6 + w.Intn(5)
	}
	switch n {
	case 0, 1:
		u := w.unit(depth - 1)
		return sentence{"~ " + u.text, not(u.f)}
	case 2:
		u := w.unit(depth - 1)
		vars := w.vars()
		if w.Intn(2) == 0 {
			return sentence{"! [" + strings.Join(vars, " , ") + "] : " + u.text, all(strings.Join(vars, " "), u.f)}
		}
		return sentence{"? [" + strings.Join(vars, " , ") + "] : " + u.text, some(strings.Join(vars, " "), u.f)}
	case 3, 4, 5:
		u := w.formula(depth - 1)
		return sentence{"( " + u.text + " )", u.f}
	case 6:
		return []sentence{{"$true", yes()}, {"$false", no()}}[w.Intn(2)]
	case 7, 8:
		x, a := w.term(0)
		y, b := w.term(0)
		if n == 7 {
			return sentence{x + " = " + y, eq(a, b)}
		}
		return sentence{x + " != " + y, not(eq(a, b))}
	}
	for {
		if x, a := w.term(0); !a.Var {
			return sentence{x, api.Form{Op: api.FormAtom, Terms: []api.Expr{a}}}
		}
	}
}

func (w writer) vars() []string {
	l := strings.Fields("X Y Z X1 Long_name")
	w.Shuffle(len(l), func(i, j int) { l[i], l[j] = l[j], l[i] })
	l = l[:1+w.Intn(4)]
	if w.Intn(25) == 0 {
		l = append(l, l[0])
	}
	return l
}

func (w writer) term(depth int) (string, api.Expr) {
	if w.Intn(3) == 0 {
		x := strings.Fields("X Y Z X1")[w.Intn(4)]
		return x, v(x)
	}
	names := []string{"a", "a", "b", "b", "fG_1", "fG_1", "'a'", "a", "'X'", "X", "'1'", "1", "'_'", "_", "'fof'", "fof"}
	i := 2 * w.Intn(len(names)/2)
	x := of(names[i+1])
	if depth > 3 || w.Intn(2) == 0 {
		return names[i], x
	}
	var texts []string
	for range 1 + w.Intn(3) + w.Intn(2)*w.Intn(2)*w.Intn(2)*4 {
		text, a := w.term(depth + 1)
		texts = append(texts, text)
		x.Args = append(x.Args, a)
	}
	return names[i] + "( " + strings.Join(texts, " , ") + " )", x
}

// TestReadWhatIsWritten: of large formulas, with blanks between all tokens or hardly any, and with more behind.
func TestReadWhatIsWritten(t *testing.T) {
	w := writer{rand.New(rand.NewSource(134))}
	m := newMachine()
	count := map[api.Errno]int{}
	for range 6000 {
		s := w.formula(w.Intn(6))
		text := s.text
		if less := strings.ReplaceAll(text, " ", ""); w.Intn(2) == 0 && alike(less, text) {
			text = less
		}
		want := plainCheck(s.f)
		count[want]++
		f, at, e := formula.Parse(text)
		if e != want || at != 0 || want == api.OK && !same(f, s.f) {
			t.Errorf("%q: %s %d %v, not %s %v", text, show(f), at, e, show(s.f), want)
		}
		behind(t, w, m, cut(t, text))
	}
	if count[api.OK] < 3000 || count[api.ErrArg] < 50 || count[api.ErrLong] < 100 {
		t.Error(count)
	}
}

// alike: are both texts cut into the same tokens, but for places?
func alike(one, two string) bool {
	l, _, e := token.Cut(one)
	m, _, d := token.Cut(two)
	return e == api.OK && d == api.OK && slices.EqualFunc(l, m, func(x, y api.Token) bool { return x.Kind == y.Kind && x.Text == y.Text })
}

// behind holds Read against the grammar from some place on, with a token taken away, put between, or another one there.
func behind(t *testing.T, w writer, m *machine, l []api.Token) {
	t.Helper()
	i := w.Intn(len(l))
	x := alphabet()[w.Intn(len(alphabet()))]
	switch w.Intn(4) {
	case 0:
		l = slices.Delete(slices.Clone(l), i, i+1)
	case 1:
		l = slices.Insert(slices.Clone(l), i, x)
	case 2:
		l = slices.Clone(l)
		l[i] = x
	}
	if len(l) == 0 {
		return
	}
	from := 0
	if w.Intn(2) == 0 {
		from = w.Intn(len(l))
	}
	at := from
	ways := []string{"formula"}
	for ; at < len(l); at++ {
		next := m.behind(ways, l[at])
		if len(next) == 0 {
			break
		}
		ways = next
	}
	f, next, e := formula.Read(l, from)
	if !m.whole(ways) {
		if next != min(at, len(l)-1) || e != api.ErrForm || !zero(f) {
			t.Errorf("%s from %d: next %d %v, not %d", words(l), from, next, e, at)
		}
	} else if e == api.OK && (next != at || plainCheck(f) != api.OK) || e != api.OK && (next != from || !zero(f)) || e == api.ErrForm {
		t.Errorf("%s from %d: next %d %v, not %d", words(l), from, next, e, at)
	}
}
