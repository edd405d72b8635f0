// Package row computes with numbers of states that depend on each other: the number of a state is a gain plus
// the weighted sum of the numbers of some states. All numbers may be of any size.
package row

import (
	"dicebox/api"
	"dicebox/exact"
	"dicebox/linear"
	"slices"
)

// Row says how the number of a state results from those of others.
type Row struct {
	Gain  exact.Rat
	Parts []Part
}

// Part is a state with the weight of its number.
type Part struct {
	To     int
	Weight exact.Rat
}

// Of returns the row of a gain plus factor times the mean by a choice.
func Of(c api.Choice, gain, factor exact.Rat) Row {
	out := Row{gain, make([]Part, len(c.Branches))}
	for i, branch := range c.Branches {
		out.Parts[i] = Part{branch.To, factor.Mul(exact.Of(branch.Chance))}
	}
	return out
}

// At returns what results from the numbers x, multiplied by scale; x contains the numbers multiplied by scale
// already.
func (r Row) At(x []exact.Rat, scale exact.Rat) exact.Rat {
	out := r.Gain.Mul(scale)
	for _, part := range r.Parts {
		out = out.Add(part.Weight.Mul(x[part.To]))
	}
	return out
}

// Best returns the first of the rows to whose result no other one is preferred, and that result. prefers
// reports whether the result of a comparison speaks for the first of two numbers.
func Best(prefers func(sign int) bool, x []exact.Rat, scale exact.Rat, rows ...Row) (int, exact.Rat) {
	best, highest := 0, rows[0].At(x, scale)
	for i, r := range rows[1:] {
		if number := r.At(x, scale); prefers(number.Cmp(highest)) {
			best, highest = i+1, number
		}
	}
	return best, highest
}

// Solve changes the numbers in x of the unknown states, a set, to those that result from their rows. There is
// exactly one list of such numbers.
func Solve(x []exact.Rat, unknown []int, rows []Row) {
	one := exact.Of(api.Num{Top: 1, Low: 1})
	for _, state := range unknown {
		x[state] = exact.Rat{}
	}
	left, right := make([][]exact.Rat, len(unknown)), make([]exact.Rat, len(unknown))
	for i, r := range rows {
		left[i], right[i] = make([]exact.Rat, len(unknown)), r.At(x, one)
		left[i][i] = one
		for _, part := range r.Parts {
			if j, found := slices.BinarySearch(unknown, part.To); found {
				left[i][j] = left[i][j].Sub(part.Weight)
			}
		}
	}
	numbers, _ := linear.Solve(left, right)
	for i, state := range unknown {
		x[state] = numbers[i]
	}
}
