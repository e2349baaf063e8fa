package seg

import (
	"testing"

	"abecedary/api"
)

// Who leaves an iterator early is told nothing more, wherever it is left: behind the first one, at the last one.
func TestIteratorsLeftEarly(t *testing.T) {
	l := []api.Range{{From: 'a', To: 'z', Class: api.Letter}}
	s := "a bc d"
	for n := 1; n <= 3; n++ {
		if got := leave(n, func(yield func() bool) {
			tokens(l, s)(func(api.Token) bool { return yield() })
		}); got != n {
			t.Errorf("tokens, left at %d, tells %d", n, got)
		}
	}
	for n := 1; n <= 4; n++ {
		if got := leave(n, func(yield func() bool) {
			solids(l, s)(func(api.Unit, int) bool { return yield() })
		}); got != n {
			t.Errorf("solids, left at %d, tells %d", n, got)
		}
	}
	for n := 1; n <= 6; n++ {
		if got := leave(n, func(yield func() bool) {
			units(s)(func(api.Unit) bool { return yield() })
		}); got != n {
			t.Errorf("units, left at %d, tells %d", n, got)
		}
	}
}

// leave is how often an iterator tells, if it is left at the nth time.
func leave(n int, tell func(yield func() bool)) int {
	told := 0
	tell(func() bool {
		told++
		return told < n
	})
	return told
}
