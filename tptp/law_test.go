package tptp_test

import (
	"math/rand"
	"strconv"
	"strings"
	"testing"

	"syllogism/api"
	"syllogism/formula"
	"syllogism/token"
	"syllogism/tptp"
)

// checked is an entry that may be.
func (r thrower) checked() api.Entry {
	for {
		x := api.Entry{Cnf: r.Intn(2) == 0, Name: r.of("a", "A", "1", "_", "fof", "a_B9", "007", strings.Repeat("z", 40)), Role: r.of(roles()...), Form: r.form(5)}
		if tptp.Check(x) == api.OK {
			return x
		}
	}
}

// TestReadOfText: is the same entries; so it is, if the text is put into a file that is included, whole or by names.
func TestReadOfText(t *testing.T) {
	r := thrower{rand.New(rand.NewSource(145))}
	whole := 0
	for range 4000 {
		var l []api.Entry
		for range r.Intn(r.Intn(60) + 1) {
			l = append(l, r.checked())
		}
		text, e := tptp.Text(l)
		if e == api.ErrLong {
			continue
		}
		if e != api.OK || strings.Count(text, "\n") != len(l) {
			t.Fatal(text, e)
		}
		whole++
		reads(t, text, nil, l...)
		files := []api.File{file("other", "fof(#"), file("f", text), file("f", "#"), file("g", "include('f').")}
		reads(t, "include('f').", files, l...)
		reads(t, "include('g').", files, l...)
		again, e := tptp.Text(l)
		if again != text || e != api.OK {
			t.Error(again, e)
		}
		if len(l) == 0 {
			continue
		}
		name := l[r.Intn(len(l))].Name
		var some []api.Entry
		for _, x := range l {
			if x.Name == name {
				some = append(some, x)
			}
		}
		reads(t, "include('f',['"+name+"']).", files, some...)
		reads(t, "include('g',['"+name+"']).", files, some...)
	}
	if whole < 3000 {
		t.Error(whole)
	}
}

// TestLines: each entry's line, one behind the other, made a second way.
func TestLines(t *testing.T) {
	r := thrower{rand.New(rand.NewSource(146))}
	for range 1000 {
		want := ""
		var l []api.Entry
		for range r.Intn(10) {
			x := r.checked()
			name, _ := token.Quote(x.Name)
			f, _ := formula.Text(x.Form)
			want += map[bool]string{false: "fof", true: "cnf"}[x.Cnf] + "(" + name + ", " + x.Role + ", " + f + ").\x0a"
			l = append(l, x)
		}
		if text, e := tptp.Text(l); len(want) <= 8000 && (text != want || e != api.OK) {
			t.Errorf("%q %v, not %q", text, e, want)
		}
	}
}

// problem is a text and files, with a fault or none.
func (r thrower) problem() (string, []api.File) {
	n := r.Intn(4)
	var files []api.File
	for k := range n {
		files = append(files, file("f"+strconv.Itoa(k), r.text(4, k)))
	}
	text := r.text(6, n)
	if r.Intn(2) == 0 {
		text = r.spoil(text)
	}
	return text, files
}

// same wants Read to tell what was told of another text, the fault at another place.
func same(t *testing.T, text string, files []api.File, l []api.Entry, at api.Spot, e api.Errno) {
	t.Helper()
	if e != api.OK {
		faulty(t, text, files, at.File, at.At, e)
	} else {
		reads(t, text, files, l...)
	}
}

// TestReadByAFile: a text that is included is read as the text itself; its faults are told to be in the file.
func TestReadByAFile(t *testing.T) {
	r := thrower{rand.New(rand.NewSource(147))}
	ends := map[bool]int{}
	for range 8000 {
		text, files := r.problem()
		l, at, e := tptp.Read(text, files)
		ends[e == api.OK]++
		if at.File < 0 {
			at.File = len(files)
		}
		files = append(files, file("whole", text), file("whole", "#"))
		same(t, "include('whole').", files, l, at, e)
		same(t, " include ( 'whole' ) . fof(a,plain,p).", files, append(l[:len(l):len(l)], fof("a", "plain", "p")), at, e)
	}
	if ends[true] < 1000 || ends[false] < 1000 {
		t.Error(ends)
	}
}

// gaps are blanks, remarks and line ends.
func gaps() []string {
	return []string{" ", "\t", "\n", "\r", "\r\n", "%\n", "% fof(a, #\n", "/**/", "/* % ' */", "/*\n.*/", " \n % x\n\t"}
}

// TestGaps: put between tokens they change nothing but places.
func TestGaps(t *testing.T) {
	r := thrower{rand.New(rand.NewSource(148))}
	ends := map[bool]int{}
	for range 8000 {
		text, files := r.problem()
		tokens, _, e := token.Cut(text)
		if e != api.OK {
			continue
		}
		l, at, e := tptp.Read(text, files)
		ends[e == api.OK]++
		wide := ""
		places := map[int]int{}
		for _, x := range tokens {
			for range 1 + r.Intn(2) {
				wide += r.of(gaps()...)
			}
			places[x.At] = len(wide)
			wide += write(x)
		}
		if len(wide) > 8000 {
			continue
		}
		if at.File < 0 {
			place, ok := places[at.At]
			if !ok {
				t.Fatal(text, at)
			}
			at.At = place
		}
		same(t, wide, files, l, at, e)
		if e == api.OK {
			behind := wide + r.of(gaps()...) + r.of("", "% the end", "%")
			same(t, behind, files, l, at, e)
			same(t, "include('whole').", append(files, file("whole", behind)), l, at, e)
		}
	}
	if ends[true] < 1000 || ends[false] < 1000 {
		t.Error(ends)
	}
}

// TestNoGaps: tokens may stand with nothing between, where they are cut as the same.
func TestNoGaps(t *testing.T) {
	reads(t, "fof(a,axiom,![X]:(p(X)=>~q)).cnf('B',plain,p(X)|X!=a).", nil, fof("a", "axiom", "! [X] : (p(X) => ~ q)"), cnf("B", "plain", "p(X) | X != a"))
	reads(t, "include('f',[a,'B',1]).fof(c,axiom,p).", []api.File{file("f", "fof(1,axiom,p).fof('B',axiom,p).fof(a,axiom,p).")}, fof("1", "axiom", "p"), fof("B", "axiom", "p"), fof("a", "axiom", "p"), fof("c", "axiom", "p"))
	reads(t, "fof(1,axiom,p).fof(2,axiom,q).", nil, fof("1", "axiom", "p"), fof("2", "axiom", "q"))
}
