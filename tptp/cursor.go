package tptp

// cursor goes over a list whose last member nobody takes: so there is always one at which it stands.
type cursor[T any] struct {
	list []T
	at   int
}

func (c *cursor[T]) here() T { return c.list[c.at] }

// take goes behind the member, if it may stand there.
func (c *cursor[T]) take(may func(T) bool) bool {
	if !may(c.here()) {
		return false
	}
	c.at++
	return true
}
