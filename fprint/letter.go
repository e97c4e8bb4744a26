package fprint

import (
	"strconv"

	"syllogism/api"
)

// letter is a symbol's number, or one of those below, none of which a symbol has.
type letter int

const (
	variable letter = -1 - iota // the chapter's A
	below                       // B: below a variable
	nothing                     // N
)

// places are those of which a print has the letters.
var places = [8][]int{{}, {0}, {1}, {2}, {0, 0}, {0, 1}, {1, 0}, {1, 1}}

// letters are a term's print, place by place.
type letters [len(places)]letter

func lettersOf(t api.Term) letters {
	var p letters
	for i := range p {
		p[i] = letterAt(t, i)
	}
	return p
}

func letterAt(t api.Term, place int) letter {
	for _, i := range places[place] {
		if t.Fun < 0 {
			return below
		}
		if i >= len(t.Args) {
			return nothing
		}
		t = t.Args[i]
	}
	if t.Fun < 0 {
		return variable
	}
	return letter(t.Fun)
}

// relation is what may be asked of two letters.
type relation func(mine, other letter) bool

func mayUnify(x, y letter) bool {
	switch {
	case x == below || y == below:
		return true
	case x == nothing || y == nothing:
		return x == y
	}
	return x == y || x == variable || y == variable
}

// mayBeInstance: may the first one be an instance of the second one?
func mayBeInstance(x, y letter) bool {
	switch y {
	case below:
		return true
	case variable:
		return x == variable || x.isSymbol()
	}
	return x == y
}

func (x letter) isSymbol() bool { return x >= 0 }

// written is the same of two terms just if they are. How many arguments there are tells where each part ends.
func written(t api.Term) string {
	var b []byte
	var write func(t api.Term)
	write = func(t api.Term) {
		b = strconv.AppendInt(b, int64(t.Fun), 10)
		b = append(b, '/')
		b = strconv.AppendInt(b, int64(len(t.Args)), 10)
		b = append(b, ' ')
		for _, a := range t.Args {
			write(a)
		}
	}
	write(t)
	return string(b)
}
