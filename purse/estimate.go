package purse

import (
	"dicebox/api"
	"dicebox/exact"
	"slices"
)

// length returns roughly the number of binary digits of the longest exact number of a plan. Each budget multiplies the
// lower numbers by no more than one option of each state does; and by no more than the least common multiple of
// all options, to the power of the number of states if some of them are free.
func (g *game) length(p plan) int {
	sum := 0
	used := make([][]bool, len(g.choices))
	for s, choices := range g.choices {
		used[s] = make([]bool, len(choices))
	}
	for _, stage := range p {
		for s, options := range stage.options {
			longest := 0
			for _, i := range options {
				used[s][i] = true
				longest = max(longest, g.choices[s][i].low.Bits()-1)
			}
			sum += longest
		}
	}
	return min(sum, len(p)*g.factorLength(used))
}

// factorLength returns the number of binary digits by which the choices that are used may lengthen numbers with each
// budget.
func (g *game) factorLength(used [][]bool) int {
	states := 1
	var lows []exact.Rat
	for s, choices := range g.choices {
		for i, c := range choices {
			if !used[s][i] {
				continue
			}
			if c.cost == 0 {
				states = len(g.choices)
			}
			lows = append(lows, exact.Ratio(exact.Whole(1), c.low))
		}
	}
	return states * exact.Common(lows).Bits()
}

// estimate returns what remains of a plan if it is restricted to choices that may be best, and whether the chances with the
// last budget are certainly not valid: no valid number is close enough to what results with rounded numbers. What
// results from numbers, as a mean or a best one, differs from what is exact by no more than they do, and rounding
// adds at most 1 twice for each budget.
func (g *game) estimate(all plan, precision int) (plan, bool) {
	scale := exact.Whole(1)
	for range precision {
		scale = scale.Add(scale)
	}
	p := pass{game: g, plan: all, certain: exact.Ratio(scale, exact.Whole(1)), round: func(top exact.Rat, low exact.Int) exact.Rat {
		quotient, _ := top.Top().Divide(top.Low().Mul(low))
		return exact.Ratio(quotient, exact.Whole(1))
	}}
	margin := exact.Whole(2 * len(all))
	for _, x := range p.run() {
		if !isNearValid(x.Top(), margin, scale) {
			return nil, true
		}
	}
	return p.restricted(exact.Ratio(margin.Add(margin), exact.Whole(1))), false
}

// restricted returns the plan of the options whose results differ from the best ones by at most margin.
func (p *pass) restricted(margin exact.Rat) plan {
	out := make(plan, len(p.plan))
	for c, l := range p.levels {
		if c > 0 && l == p.levels[c-1] {
			out[c] = stage{slices.Clone(out[c-1].options), l.pick}
		} else {
			out[c] = stage{l.near(margin), l.pick}
		}
	}
	return out
}

// isNearValid reports whether there is a valid number from (x - margin) / scale to (x + margin) / scale, and at least
// 0. Where the fractions of both ends continue alike, so do those of all numbers between them;
// where they do not, one with the least upper and lower numbers ends.
func isNearValid(x, margin, scale exact.Int) bool {
	if x.Cmp(margin) <= 0 {
		return true
	}
	one, limit := exact.Whole(1), exact.Whole(api.MaxNum)
	left, right := [2]exact.Int{x.Sub(margin), scale}, [2]exact.Int{x.Add(margin), scale}
	before, low := one, exact.Int{}
	for low.Cmp(limit) <= 0 {
		quotient, rest := left[0].Divide(left[1])
		if rest.Sign() == 0 {
			return quotient.Mul(low).Add(before).Cmp(limit) <= 0
		}
		if next := quotient.Add(one); next.Mul(right[1]).Cmp(right[0]) <= 0 {
			return next.Mul(low).Add(before).Cmp(limit) <= 0
		}
		rightRest := right[0].Sub(quotient.Mul(right[1]))
		left, right = [2]exact.Int{right[1], rightRest}, [2]exact.Int{left[1], rest}
		before, low = low, quotient.Mul(low).Add(before)
	}
	return false
}
