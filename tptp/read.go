package tptp

import (
	"slices"

	"syllogism/api"
)

// maxIncludes bounds what files that include others again and again come to.
const maxIncludes = 200

// ownText is the place of the problem's own text, which is none of the files.
const ownText = -1

// reader reads a text and the files that it includes, each when its include is read.
type reader struct {
	files    []api.File
	open     map[int]struct{} // the places of those that are being read
	includes int
	entries  []api.Entry
}

// whole is the first fault, or none.
func (r *reader) whole(text string) (f fault) {
	defer func() {
		if x := recover(); x != nil {
			f = x.(fault)
		}
	}()
	r.text(text, ownText)
	return fault{}
}

func (r *reader) text(text string, file int) {
	p := begin(text, file)
	for !end(p.here()) {
		r.item(p)
	}
}

func (r *reader) item(p *page) {
	first := p.need(item)
	p.signs("(")
	if first.Text == includeItem {
		r.include(p)
		return
	}
	x := api.Entry{Cnf: first.Text == cnfItem, Name: p.need(named).Text}
	p.signs(",")
	x.Role = p.role(x.Cnf)
	x.Form = p.formula()
	p.signs(")", ".")
	if e := Check(x); e != api.OK {
		p.leave(first.At, e)
	}
	if len(r.entries) == api.MaxEntries {
		p.leave(first.At, api.ErrLong)
	}
	r.entries = append(r.entries, x)
}

func (r *reader) include(p *page) {
	file := p.need(quoted)
	var names []api.Token
	if p.take(sign(",")) {
		p.signs("[")
		names = p.names()
		p.signs("]")
	}
	p.signs(")", ".")
	n := r.find(p, file)
	from := len(r.entries)
	r.open[n] = struct{}{}
	r.text(r.files[n].Text, n)
	delete(r.open, n)
	if len(names) > 0 {
		r.choose(p, from, names)
	}
}

// find is the place of the file that is to be read.
func (r *reader) find(p *page, file api.Token) int {
	r.includes++
	if r.includes > maxIncludes {
		p.leave(file.At, api.ErrLong)
	}
	n := slices.IndexFunc(r.files, func(f api.File) bool { return f.Name == file.Text })
	if n < 0 {
		p.leave(file.At, api.ErrMissing)
	}
	if _, ok := r.open[n]; ok {
		p.leave(file.At, api.ErrCycle)
	}
	return n
}

// choose leaves out, from that entry on, those that are not told.
func (r *reader) choose(p *page, from int, names []api.Token) {
	there := make(map[string]int)
	for _, x := range r.entries[from:] {
		there[x.Name]++
	}
	told := make(map[string]int)
	for _, t := range names {
		if there[t.Text] == 0 {
			p.leave(t.At, api.ErrMissing)
		}
		told[t.Text]++
	}
	kept := slices.DeleteFunc(r.entries[from:], func(x api.Entry) bool { return told[x.Name] == 0 })
	r.entries = r.entries[:from+len(kept)]
}
