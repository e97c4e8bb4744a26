package tptp_test

import (
	"fmt"
	"strconv"
	"strings"
	"testing"

	"syllogism/api"
	"syllogism/tptp"
)

// last is where the last item of a text begins.
func last(text string) int { return strings.LastIndex(text, ".fof") + 1 }

// count wants so many entries.
func count(t *testing.T, text string, files []api.File, n int) {
	t.Helper()
	l, at, e := tptp.Read(text, files)
	if len(l) != n || at != (api.Spot{}) || e != api.OK {
		t.Errorf("%.200q: %d entries at %v %v, not %d", text, len(l), at, e, n)
	}
}

// TestEntriesOfOneText: 200 are as many as there may be.
func TestEntriesOfOneText(t *testing.T) {
	for _, n := range []int{1, 199, 200} {
		count(t, facts("a", n), nil, n)
	}
	for _, n := range []int{201, 202, 300} {
		faulty(t, facts("a", n), nil, -1, last(facts("a", 201)), api.ErrLong)
		faulty(t, "include('f').", []api.File{file("f", facts("a", n))}, 0, last(facts("a", 201)), api.ErrLong)
	}
	full := facts("a", 200)
	at := len(full)
	faulty(t, full+"fof(x,plain,p).", nil, -1, at, api.ErrLong)
	faulty(t, full+"cnf(x,plain,p|q).", nil, -1, at, api.ErrLong)
	faulty(t, full+"fof(x,plain,p(X)).", nil, -1, at, api.ErrFree)
	faulty(t, full+"cnf(x,plain,p&q).", nil, -1, at, api.ErrClause)
	faulty(t, full+"fof(x,thing,p).", nil, -1, at+6, api.ErrRole)
	faulty(t, full+"fof(x,plain,p)", nil, -1, at+14, api.ErrItem)
	faulty(t, full+"fof(x,plain,)", nil, -1, at+12, api.ErrForm)
	faulty(t, full+"fof(x,plain,p).fof(y,plain,p(X)).", nil, -1, at, api.ErrLong)
}

// TestEntriesByIncludes: all that were read ahead count, those of a file that is still read with what will be left out.
func TestEntriesByIncludes(t *testing.T) {
	files := []api.File{file("f", facts("f", 150)), file("g", "include('f',[f7]). "+facts("g", 100)), file("whole", facts("w", 200)), file("none", ""), file("h", "include('g',[g1,g2]). include('g',[f7]).")}
	count(t, "include('f')."+facts("a", 50), files, 200)
	count(t, facts("a", 50)+"include('f').", files, 200)
	faulty(t, facts("a", 51)+"include('f').", files, 0, last(facts("f", 150)), api.ErrLong)
	faulty(t, facts("a", 53)+"include('f').", files, 0, last(facts("f", 148)), api.ErrLong)
	faulty(t, "include('f')."+facts("a", 51), files, -1, len("include('f').")+last(facts("a", 51)), api.ErrLong)
	faulty(t, facts("a", 51)+"include('f',[f0]).", files, 0, last(facts("f", 150)), api.ErrLong)
	faulty(t, facts("a", 51)+"include('f',[none]).", files, 0, last(facts("f", 150)), api.ErrLong)
	count(t, facts("a", 50)+"include('f',[f0,f149]).", files, 52)
	count(t, strings.Repeat("include('f',[f3]).", 51), files, 51)
	faulty(t, strings.Repeat("include('f',[f3]).", 52), files, 0, last(facts("f", 150)), api.ErrLong)
	count(t, strings.Repeat("include('f',[f3]).", 50)+facts("a", 150), files, 200)
	faulty(t, strings.Repeat("include('f',[f3]).", 50)+facts("a", 151), files, -1, 50*18+last(facts("a", 151)), api.ErrLong)
	count(t, "include('whole'). include('none').", files, 200)
	faulty(t, "include('whole'). include('none'). fof(a,plain,p).", files, -1, 35, api.ErrLong)
	faulty(t, "include('whole'). include('f',[f0]).", files, 0, 0, api.ErrLong)
	count(t, "include('whole',[w0]). include('g',[g0]). include('g',[f7]).", files, 3)
	count(t, facts("a", 48)+"include('h').", files, 51) // 48, then 2 that are left of 101, then 150
	faulty(t, facts("a", 49)+"include('h').", files, 0, last(facts("f", 150)), api.ErrLong)
	faulty(t, facts("a", 51)+"include('h').", files, 0, last(facts("f", 150)), api.ErrLong)
	count(t, facts("a", 47)+"include('h',[g2]). include('h',[f7]).", files, 49)
	faulty(t, facts("a", 48)+"include('h',[g2]). include('h',[f7]).", files, 0, last(facts("f", 150)), api.ErrLong)
	faulty(t, facts("a", 50)+"include('h',[g2]).", files, 0, last(facts("f", 149)), api.ErrLong)
}

// TestIncludesOfOneText: 200 are as many as there may be; the 201st is told to be that ahead of what else it is.
func TestIncludesOfOneText(t *testing.T) {
	files := []api.File{file("f", ""), file("one", "fof(a,plain,p)."), file("self", "include('self').")}
	row := strings.Repeat("include('f').", 200)
	count(t, row, files, 0)
	count(t, row+"fof(a,plain,p).", files, 1)
	for _, more := range []string{"include('f').", "include('none').", "include('self').", "include('f',[a]).", "include('none',[a]).", "include('f').include('f')."} {
		faulty(t, row+more, files, -1, len(row)+8, api.ErrLong)
		faulty(t, "include('x').", append(files, file("x", row[13:]+more)), 3, len(row)-13+8, api.ErrLong)
	}
	faulty(t, row[13:]+"include('self').", files, 2, 8, api.ErrLong)
	faulty(t, row[26:]+"include('self').", files, 2, 8, api.ErrCycle)
	faulty(t, row[13:]+"include('none').", files, -1, len(row)-13+8, api.ErrMissing)
	faulty(t, row+"include('f')", files, -1, len(row)+12, api.ErrItem)
	faulty(t, row+"include('f',[a).", files, -1, len(row)+14, api.ErrItem)
	count(t, strings.Repeat("include('one').", 200), files, 200)
	faulty(t, strings.Repeat("include('one').", 201), files, -1, 200*15+8, api.ErrLong)
	faulty(t, "fof(b,plain,q)."+strings.Repeat("include('one').", 200), files, 1, 0, api.ErrLong)
}

// TestIncludesOfAllTexts: files within files, each twice the one below it: 2 + 4 + 8 .. includes, and those of the text.
func TestIncludesOfAllTexts(t *testing.T) {
	files := []api.File{file("d0", "")}
	for i := range 7 {
		below := "include('d" + strconv.Itoa(i) + "')."
		files = append(files, file("d"+strconv.Itoa(i+1), below+below))
	}
	// d6 comes to 2 + 4 + .. + 64 = 126 includes, d5 to 62, d4 to 30, d7 to 254.
	count(t, "include('d6'). include('d5').", files, 0) // 126 + 62 + 2
	count(t, "include('d6'). include('d5'). "+strings.Repeat("include('d0').", 10), files, 0)
	at := len("include('d6'). include('d5'). ")
	faulty(t, "include('d6'). include('d5'). "+strings.Repeat("include('d0').", 11), files, -1, at+10*14+8, api.ErrLong)
	faulty(t, "include('d6'). include('d5'). "+strings.Repeat("include('d0').", 8)+"include('d1').", files, 1, 14+8, api.ErrLong)
	count(t, "include('d6'). include('d5'). "+strings.Repeat("include('d0').", 7)+"include('d1').", files, 0)
	faulty(t, "include('d6'). include('d5'). "+strings.Repeat("include('d0').", 9)+"include('d1').", files, 1, 8, api.ErrLong)
	// Of d7: d6 is the second include and has 126; d6 again, d5 with its 62, and d5 again come to 193; then d4, d3, d2, d1, twice d0, and d1 again, the 200th.
	faulty(t, "include('d7').", files, 1, 8, api.ErrLong)
	chain := []api.File{file("c0", "fof(a,plain,p).")}
	for i := range 250 {
		chain = append(chain, file("c"+strconv.Itoa(i+1), "include('c"+strconv.Itoa(i)+"')."))
	}
	for i := range 250 {
		text := fmt.Sprintf("include('c%d').", i)
		if i < 200 {
			count(t, text, chain, 1)
			count(t, "include('c199',[a]).", chain, 1)
		} else {
			faulty(t, text, chain, i-199, 8, api.ErrLong)
		}
	}
}

// padded is a text of so many bytes, by a remark behind it.
func padded(text string, n int) string { return text + "%" + strings.Repeat("x", n-len(text)-1) }

// TestLongestTexts: of 8000 bytes, and of one more, read and written.
func TestLongestTexts(t *testing.T) {
	const text = "fof(a,axiom,p)."
	count(t, padded(text, 8000), nil, 1)
	faulty(t, padded(text, 8001), nil, -1, 0, api.ErrLong)
	faulty(t, padded("#", 8001), nil, -1, 0, api.ErrLong)
	files := []api.File{file("f", padded(text, 8000)), file("g", padded(text, 8001)), file("h", strings.Repeat(" ", 100000))}
	count(t, padded("include('f').", 8000), files, 1)
	count(t, strings.Repeat("include('f').", 150), files, 150)
	faulty(t, "include('g').", files, 1, 0, api.ErrLong)
	faulty(t, "include('f'). include('h',[a]).", files, 2, 0, api.ErrLong)
	// 200 entries, the atoms' names as long as makes 8000 bytes.
	l := many(200, api.Entry{Name: "a", Role: "plain", Form: parsed("p")})
	short := len("fof(a, plain, p).\n")
	left := 8000 - 200*short
	for i := range l {
		n := min(39, left)
		left -= n
		l[i].Form = parsed("p" + strings.Repeat("q", n))
	}
	if left != 0 {
		t.Fatal(left)
	}
	written, e := tptp.Text(l)
	if len(written) != 8000 || e != api.OK {
		t.Error(len(written), e)
	}
	reads(t, written, nil, l...)
	reads(t, "include('f').", []api.File{file("f", written)}, l...)
	l[7].Name = "ab"
	refused(t, api.ErrLong, l...)
	l[7].Name = "A"
	refused(t, api.ErrLong, l...)
	l[7].Name = "1"
	refused(t, api.ErrLong, l...)
	l[7].Name = "a"
	l[7].Role = "axiom"
	writes(t, written[:7*(short+39)]+strings.Replace(written[7*(short+39):], "plain", "axiom", 1), l...)
	l[7].Role = "lemma"
	l[199].Form = parsed("p" + "q" + l[199].Form.Terms[0].Name[1:])
	refused(t, api.ErrLong, l...)
}

// TestLongLists: more than 200 entries go ahead of all, what is wrong with one of them ahead of a text that is too long.
func TestLongLists(t *testing.T) {
	p := fof("a", "plain", "p")
	long := fof("a", "plain", strings.Repeat("p"+strings.Repeat("q", 30)+" | ", 100)+"p")
	bad := api.Entry{Name: "a", Role: "thing", Form: parsed("p")}
	if text, e := tptp.Text(many(200, p)); e != api.OK || len(text) != 200*18 {
		t.Error(len(text), e)
	}
	refused(t, api.ErrLong, many(201, p)...)
	refused(t, api.ErrLong, many(201, bad)...)
	refused(t, api.ErrLong, many(201, api.Entry{})...)
	refused(t, api.ErrLong, many(5000, long)...)
	refused(t, api.ErrRole, append(many(199, p), bad)...)
	refused(t, api.ErrLong, append(many(200, p), bad)...)
	refused(t, api.ErrLong, long, long, long)
	refused(t, api.ErrRole, long, long, long, bad)
	refused(t, api.ErrRole, append(many(199, long), bad)...)
	refused(t, api.ErrArg, append(many(150, long), api.Entry{}, bad)...)
	refused(t, api.ErrFree, append(many(150, long), fof("a", "plain", "p(X)"), bad)...)
	writes(t, "fof(a, plain, "+mustText(t, long)+").\n"+"fof(a, plain, "+mustText(t, long)+").\n", long, long)
}

func mustText(t *testing.T, x api.Entry) string {
	t.Helper()
	text, e := tptp.Text([]api.Entry{x})
	if e != api.OK {
		t.Fatal(e)
	}
	text = strings.TrimPrefix(text, "fof("+x.Name+", "+x.Role+", ")
	return strings.TrimSuffix(text, ").\n")
}
