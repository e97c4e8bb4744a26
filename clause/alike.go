package clause

import (
	"iter"

	"syllogism/api"
	"syllogism/match"
)

// become: can the literals become those of another clause with as many, in some order, sides turned or not, in so many tries? Two matchers, one each way, keep the variables apart that are apart in either.
func (c literals) become(d literals, tries int) bool {
	there, back := match.New(), match.New()
	both := func(l, m api.Lit, turned bool) bool {
		return there.Lit(l, m, turned) && back.Lit(m, l, turned)
	}
	taken := make([]bool, len(d))
	var rest func(i int) bool
	rest = func(i int) bool {
		if i == len(c) {
			return true
		}
		for j, turned := range ways(taken) {
			if tries == 0 {
				return false
			}
			tries--
			m, n := there.Mark(), back.Mark()
			taken[j] = true
			if both(c[i], d[j], turned) && rest(i+1) {
				return true
			}
			taken[j] = false
			there.Back(m)
			back.Back(n)
		}
		return false
	}
	return rest(0)
}

// ways goes over the places that are free as it comes to them, each as it is and then turned.
func ways(taken []bool) iter.Seq2[int, bool] {
	return func(yield func(int, bool) bool) {
		for j := range taken {
			if !taken[j] && (!yield(j, false) || !yield(j, true)) {
				return
			}
		}
	}
}
