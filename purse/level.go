package purse

import (
	"dicebox/exact"
	"dicebox/row"
	"slices"
)

// level is a game with one of the budgets: it is known what results from the payments.
type level struct {
	*game
	options [][]int
	certain exact.Rat     // the number of the goal
	payoffs [][]exact.Rat // what results from the choices that cost something
	pick    []int
	exact   []exact.Rat // the numbers with pick
	rounded []exact.Rat
}

// solve changes pick to the best choices. If it cannot be improved, its numbers are the best of their own means. For min
// there is no other list of this kind, because all free choices that never lead to the goal are among the
// first ones; for max there is no list with lesser numbers.
func (l *level) solve() {
	for again := true; again; again = l.improve() {
		l.evaluate()
	}
}

// pays reports whether the choice of a state in pick costs something.
func (l *level) pays(s int) bool {
	return l.choices[s][l.pick[s]].cost > 0
}

// evaluate computes the numbers of all states that have options or belong to the goal.
func (l *level) evaluate() {
	x := make([]exact.Rat, len(l.choices))
	var unknown []int
	var rows []row.Row
	for s, leaves := range l.leaving() {
		switch {
		case l.goal[s]:
			x[s] = l.certain
		case leaves && l.pays(s):
			x[s] = l.payoffs[s][l.pick[s]]
		case leaves:
			unknown = append(unknown, s)
			rows = append(rows, l.choices[s][l.pick[s]].mean)
		}
	}
	row.Solve(x, unknown, rows)
	l.exact = x
}

// leaving returns the states from which the choices of pick may lead to the goal or to a payment.
func (l *level) leaving() []bool {
	out := slices.Clone(l.goal)
	leaves := func(s int) bool {
		return l.pays(s) || slices.ContainsFunc(l.choices[s][l.pick[s]].mean.Parts, func(p row.Part) bool { return out[p.To] })
	}
	for again := true; again; {
		again = false
		for s, options := range l.options {
			if len(options) > 0 && !out[s] && leaves(s) {
				out[s], again = true, true
			}
		}
	}
	return out
}

// improve changes each choice of pick to a better one, if there is one, and reports whether there is.
func (l *level) improve() bool {
	found := false
	numbers, scale := exact.Scaled(l.exact)
	for s, options := range l.options {
		best := numbers[s]
		for _, i := range options {
			if number := l.result(s, i, numbers, scale); l.prefers(number.Cmp(best)) {
				best, l.pick[s], found = number, i, true
			}
		}
	}
	return found
}

// result returns what results from a choice of a state, multiplied by scale; so are the numbers of all states.
func (l *level) result(s, i int, numbers []exact.Rat, scale exact.Rat) exact.Rat {
	if c := l.choices[s][i]; c.cost == 0 {
		return c.mean.At(numbers, scale)
	}
	return l.payoffs[s][i].Mul(scale)
}

// near returns the options whose results differ from the best one by at most margin.
func (l *level) near(margin exact.Rat) [][]int {
	out := make([][]int, len(l.options))
	numbers, scale := exact.Scaled(l.exact)
	margin = margin.Mul(scale)
	for s, options := range l.options {
		for _, i := range options {
			difference := l.result(s, i, numbers, scale).Sub(numbers[s])
			if difference.Cmp(margin) <= 0 && difference.Neg().Cmp(margin) <= 0 {
				out[s] = append(out[s], i)
			}
		}
	}
	return out
}
