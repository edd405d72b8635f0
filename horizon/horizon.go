// Package horizon computes what a player attains within a number of steps. After many steps the exact numbers
// may be far too long to be computed; then they are hardly ever valid, and it is enough to
// know that. So the steps are first repeated with estimates and residues, which show which choices are
// best and refuse most results that are not valid, and exactly only if a result may be valid.
package horizon

import (
	"dicebox/api"
	"dicebox/exact"
	"dicebox/policy"
	"slices"
)

// game is a model whose player prefers some numbers of its states to others.
type game struct {
	states  []api.State
	first   []api.Num // the numbers without any steps
	prefers func(sign int) bool
}

// Repeat returns what results from the numbers first if they are replaced n times by
// the best of their means by the choices of each state; or ErrFull if that is not valid. m and
// first are valid. prefers reports whether the result of a comparison speaks for the first of two
// numbers.
func Repeat(m api.Model, first []api.Num, n int, prefers func(sign int) bool) ([]api.Num, api.Errno) {
	g := game{m.States, first, prefers}
	if g.refused(n) {
		return nil, api.ErrFull
	}
	return exact.Nums(g.exactly(n))
}

// exactly returns the numbers after n steps. As soon as a step does not change them, none does.
func (g game) exactly(n int) []exact.Rat {
	now := exact.List(g.first)
	for range n {
		next := make([]exact.Rat, len(now))
		for s, state := range g.states {
			_, next[s] = policy.Best(g.prefers, now, state.Choices...)
		}
		if slices.EqualFunc(now, next, func(a, b exact.Rat) bool { return a.Cmp(b) == 0 }) {
			break
		}
		now = next
	}
	return now
}
