package purse

import (
	"dicebox/exact"
	"dicebox/row"
	"slices"
)

// pass computes the numbers with all budgets of a plan, exactly or rounded.
type pass struct {
	*game
	plan    plan
	certain exact.Rat // the number of the goal
	round   func(top exact.Rat, low exact.Int) exact.Rat
	levels  []*level
	// kept tells, for each budget, of which states the number is the same as with the budget before.
	kept [][]bool
}

// run returns the numbers with the last budget.
func (p *pass) run() []exact.Rat {
	pick := p.start
	for c, stage := range p.plan {
		if p.isKept(c) {
			p.levels = append(p.levels, p.levels[c-1])
		} else {
			if stage.pick != nil {
				pick = stage.pick
			}
			pick = p.solve(c, slices.Clone(pick))
		}
		p.kept = append(p.kept, p.compare(c))
	}
	return p.levels[len(p.plan)-1].rounded
}

// solve appends the level with the budget c, and returns the best choices; pick contains those that are improved first.
func (p *pass) solve(c int, pick []int) []int {
	l := &level{game: p.game, options: p.plan[c].options, certain: p.certain, payoffs: make([][]exact.Rat, len(p.choices)), pick: pick}
	for s, options := range l.options {
		l.payoffs[s] = make([]exact.Rat, len(p.choices[s]))
		for _, i := range options {
			if o := p.choices[s][i]; o.cost > 0 && o.cost <= c {
				l.payoffs[s][i] = p.round(o.whole.At(p.levels[c-o.cost].rounded, one()), o.low)
			}
		}
	}
	l.solve()
	for _, x := range l.exact {
		l.rounded = append(l.rounded, p.round(x, exact.Whole(1)))
	}
	p.levels = append(p.levels, l)
	return pick
}

// isKept reports whether the numbers with the budget c are certainly the same as with the budget before: there are the
// same options, and their payments lead to the same numbers.
func (p *pass) isKept(c int) bool {
	if c == 0 {
		return false
	}
	for s, options := range p.plan[c].options {
		if len(options) == 0 {
			continue
		}
		if !slices.Equal(options, p.plan[c-1].options[s]) {
			return false
		}
		for _, i := range options {
			if !p.isSame(p.choices[s][i], c) {
				return false
			}
		}
	}
	return true
}

// isSame reports whether what results from a choice with the budget c is certainly the same as with the budget before, as
// far as it does not depend on numbers with the same budget.
func (p *pass) isSame(o choice, c int) bool {
	switch {
	case o.cost == 0 || o.cost > c:
		return true
	case o.cost == c:
		return false
	}
	return !slices.ContainsFunc(o.mean.Parts, func(part row.Part) bool { return !p.kept[c-o.cost][part.To] })
}

// compare reports for each state whether its number with the budget c is the same as with the budget before. Numbers
// that do not matter are 0, but options that are the same with two budgets depend on none of these.
func (p *pass) compare(c int) []bool {
	out := make([]bool, len(p.choices))
	if c == 0 {
		return out
	}
	now, before := p.levels[c], p.levels[c-1]
	for s := range out {
		out[s] = now == before || now.rounded[s].Cmp(before.rounded[s]) == 0
	}
	return out
}
