// Package horizon computes what players attain within a number of steps. After many steps the exact numbers
// may be far too long to be computed; then they are hardly ever valid, and it is enough to
// know that. So the steps are first repeated with estimates and residues, which show which choices are
// best and refuse most results that are not valid, and exactly only if a result may be valid.
package horizon

import (
	"dicebox/api"
	"dicebox/exact"
	"dicebox/row"
	"slices"
)

// Game says how the numbers of states are replaced in each step: by the best of what results from
// some rows. The weights of a row are at least 0, and their sum is at most 1.
type Game struct {
	Rows [][]row.Row
	// First contains the numbers without any steps. All of them are valid.
	First []api.Num
	// Prefers reports whether, in a state, the result of a comparison speaks for the first of two numbers.
	Prefers func(state, sign int) bool
}

// plan contains, for each step and state, the rows of which one is certainly the best; none where the number
// does not matter.
type plan [][][]int

// Repeat returns the numbers after n steps, or ErrFull if one of them is not valid.
func (g Game) Repeat(n int) ([]api.Num, api.Errno) {
	p, refused := g.estimate(n)
	if refused {
		return nil, api.ErrFull
	}
	g.prune(p)
	return exact.Nums(g.exactly(p))
}

// prune removes the rows of numbers on which the last ones do not depend: long numbers on the way to short ones
// hardly ever matter.
func (g Game) prune(p plan) {
	needed := make([]bool, len(g.Rows))
	for s := range needed {
		needed[s] = true
	}
	for _, step := range slices.Backward(p) {
		before := make([]bool, len(needed))
		for s, rows := range step {
			if !needed[s] {
				step[s] = nil
				continue
			}
			for _, i := range rows {
				for _, part := range g.Rows[s][i].Parts {
					before[part.To] = true
				}
			}
		}
		needed = before
	}
}

// exactly returns the numbers after the steps of a plan. A number that results from the same rows and the same
// numbers as in the step before is not computed again. Numbers that do not matter are 0, but rows that are
// the same in two steps depend on none of these.
func (g Game) exactly(p plan) []exact.Rat {
	now, kept := exact.List(g.First), make([]bool, len(g.First))
	for i, step := range p {
		next, nextKept := make([]exact.Rat, len(now)), make([]bool, len(now))
		for s, rows := range step {
			if i > 0 && slices.Equal(rows, p[i-1][s]) && g.dependsOn(s, rows, kept) {
				next[s], nextKept[s] = now[s], true
				continue
			}
			if len(rows) > 0 {
				next[s] = g.best(s, rows, now)
				nextKept[s] = next[s].Cmp(now[s]) == 0
			}
		}
		now, kept = next, nextKept
	}
	return now
}

// dependsOn reports whether some rows of a state depend only on the numbers of given states.
func (g Game) dependsOn(s int, rows []int, given []bool) bool {
	return !slices.ContainsFunc(rows, func(i int) bool {
		return slices.ContainsFunc(g.Rows[s][i].Parts, func(p row.Part) bool { return !given[p.To] })
	})
}

// best returns the best number that results, in a state, from one of some rows.
func (g Game) best(s int, rows []int, x []exact.Rat) exact.Rat {
	chosen := make([]row.Row, len(rows))
	for i, r := range rows {
		chosen[i] = g.Rows[s][r]
	}
	_, out := row.Best(func(sign int) bool { return g.Prefers(s, sign) }, x, exact.Of(api.Num{Top: 1, Low: 1}), chosen...)
	return out
}
