// Package sign is signatures: see shared/doc/01-sign.md.
package sign

import (
	"iter"
	"slices"
	"strconv"

	"syllogism/api"
)

// truth stands first in every signature; it is the one symbol whose name is none.
var truth = api.Sym{Name: "$true", Pred: true}

// New: P1.1.
func New() api.Sig { return api.Sig{Syms: []api.Sym{truth}} }

// Check: P1.1.
func Check(s api.Sig) api.Errno {
	if len(s.Syms) > api.MaxSyms {
		return api.ErrLong
	}
	if len(s.Syms) == 0 || s.Syms[0] != truth {
		return api.ErrTrue
	}
	first := numbers(s.Syms)
	for i, x := range s.Syms {
		if i == 0 {
			continue
		}
		if e := fits(x.Name, x.Arity); e != api.OK {
			return e
		}
		if first[x] < i {
			return api.ErrSame
		}
	}
	return api.OK
}

// Find: P1.2. It takes any signature, and one symbol looked for does not repay a map of all.
func Find(s api.Sig, x api.Sym) (int, bool) {
	n := slices.Index(s.Syms, x)
	if n < 0 {
		return 0, false
	}
	return n, true
}

// Add: P1.3.
func Add(s api.Sig, l ...api.Sym) (api.Sig, api.Errno) {
	if e := Check(s); e != api.OK {
		return api.Sig{}, e
	}
	for _, x := range l {
		if e := fits(x.Name, x.Arity); e != api.OK && x != truth {
			return api.Sig{}, e
		}
	}
	syms := slices.Clone(s.Syms)
	known := numbers(syms)
	for _, x := range l {
		if _, ok := known[x]; ok {
			continue
		}
		if len(syms) == api.MaxSyms {
			return api.Sig{}, api.ErrLong
		}
		known[x] = len(syms)
		syms = append(syms, x)
	}
	return api.Sig{Syms: syms}, api.OK
}

// Fresh: P1.4. The search ends: a signature has fewer names than it goes through.
func Fresh(s api.Sig, name string, arity int, pred bool) (api.Sym, api.Errno) {
	if e := Check(s); e != api.OK {
		return api.Sym{}, e
	}
	if e := fits(name, arity); e != api.OK {
		return api.Sym{}, e
	}
	n := 1
	for named(s, name+strconv.Itoa(n)) {
		n++
	}
	x := api.Sym{Name: name + strconv.Itoa(n), Arity: arity, Pred: pred}
	if e := fits(x.Name, x.Arity); e != api.OK {
		return api.Sym{}, e
	}
	return x, api.OK
}

// Same: P1.2.
func Same(a, b api.Sig) bool { return slices.Equal(a.Syms, b.Syms) }

// Symbols: P1.2. The copy keeps what there was, if the caller changes his signature ahead of going over it.
func Symbols(s api.Sig, pred bool) iter.Seq2[int, api.Sym] {
	syms := slices.Clone(s.Syms)
	return func(yield func(int, api.Sym) bool) {
		for i, x := range syms {
			if x.Pred == pred && !yield(i, x) {
				return
			}
		}
	}
}

// numbers goes backward, so that the first of several that are the same is the one that stays.
func numbers(l []api.Sym) map[api.Sym]int {
	m := make(map[api.Sym]int, len(l))
	for i, x := range slices.Backward(l) {
		m[x] = i
	}
	return m
}

// named asks for the name alone: a symbol of another arity or kind takes it as well.
func named(s api.Sig, name string) bool {
	return slices.ContainsFunc(s.Syms, func(x api.Sym) bool { return x.Name == name })
}

func fits(name string, arity int) api.Errno {
	if len(name) == 0 || len(name) > api.MaxName || !all(name, nameByte) {
		return api.ErrName
	}
	if arity < 0 || arity > api.MaxArity {
		return api.ErrArity
	}
	return api.OK
}

func all(text string, may func(byte) bool) bool {
	for i := range len(text) {
		if !may(text[i]) {
			return false
		}
	}
	return true
}

func nameByte(b byte) bool {
	return 'a' <= b && b <= 'z' || 'A' <= b && b <= 'Z' || '0' <= b && b <= '9' || b == '_'
}
