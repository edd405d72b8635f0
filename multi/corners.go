package multi

import (
	"dicebox/api"
	"dicebox/exact"
	"dicebox/num"
	"slices"
)

// corners returns the corners for two goals, in the order of their first numbers, or ErrFull if one of them is not
// valid.
func (g game) corners() ([][]api.Num, api.Errno) {
	var out [][]api.Num
	e := api.OK
	add := func(p plan) {
		numbers, full := exact.Nums(p.outcome())
		if full != api.OK {
			e = full
		}
		out = append(out, numbers)
	}
	// between adds the corners between two others; the first number of a is less than that of b
	var between func(a, b plan)
	between = func(a, b plan) {
		if e != api.OK {
			return
		}
		weights := across(a, b)
		p := g.best(weights, a, b)
		if p.worth(weights).Cmp(a.worth(weights)) == 0 {
			return
		}
		left, right := g.face(p, weights)
		add(left)
		between(a, left)
		if isLeft(left, right) {
			add(right)
		}
		between(right, b)
	}
	_, left := g.face(g.best(alone(1)), alone(1))
	right, _ := g.face(g.best(alone(0)), alone(0))
	add(left)
	if isLeft(left, right) {
		add(right)
		between(left, right)
	}
	if e != api.OK {
		return nil, e
	}
	slices.SortFunc(out, func(a, b []api.Num) int {
		sign, _ := num.Cmp(a[0], b[0])
		return sign
	})
	return out, api.OK
}

// alone returns weights that are 1 for goal g and 0 for the other one.
func alone(g int) []exact.Rat {
	out := make([]exact.Rat, 2)
	out[g] = one()
	return out
}

// across returns the weights for which two outcomes have the same worth.
func across(a, b plan) []exact.Rat {
	p, q := a.outcome(), b.outcome()
	return []exact.Rat{p[1].Sub(q[1]), q[0].Sub(p[0])}
}

// isLeft reports whether the first number of the outcome of a is less than that of b.
func isLeft(a, b plan) bool {
	return a.outcome()[0].Cmp(b.outcome()[0]) < 0
}

// face returns the first and the last one of the outcomes of the greatest worth, which p has: in the order of their first
// numbers, which is that of their second numbers turned around.
func (g game) face(p plan, weights []exact.Rat) (plan, plan) {
	t := g.tight(p, weights)
	return t.best(alone(1), p), t.best(alone(0), p)
}
