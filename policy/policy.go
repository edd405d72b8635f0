// Package policy compares choices, and computes the chances that strategies attain, with numbers of any size.
// The layers improve strategies with it: the chances on the way to the best strategy may be not
// valid although the best ones are.
package policy

import (
	"dicebox/api"
	"dicebox/exact"
	"dicebox/linear"
	"dicebox/model"
	"dicebox/sure"
	"slices"
)

// Check returns ErrArg unless m is valid, goal is a valid set of its states and s consists of valid strategies
// for it.
func Check(m api.Model, goal []int, s ...[]int) api.Errno {
	if valid, e := model.ValidSet(m, goal); e != api.OK || !valid {
		return api.ErrArg
	}
	for _, l := range s {
		if valid, _ := model.ValidStrategy(m, l); !valid {
			return api.ErrArg
		}
	}
	return api.OK
}

// Mean returns the mean of x by a choice.
func Mean(c api.Choice, x []exact.Rat) exact.Rat {
	var out exact.Rat
	for _, branch := range c.Branches {
		out = out.Add(exact.Of(branch.Chance).Mul(x[branch.To]))
	}
	return out
}

// Best returns the first of the choices to whose mean of x no other mean is preferred, and that mean.
// prefers reports whether the result of a comparison speaks for the first of two numbers.
func Best(prefers func(sign int) bool, x []exact.Rat, choices ...api.Choice) (int, exact.Rat) {
	best, highest := 0, Mean(choices[0], x)
	for i, c := range choices[1:] {
		if mean := Mean(c, x); prefers(mean.Cmp(highest)) {
			best, highest = i+1, mean
		}
	}
	return best, highest
}

// Whole returns x, multiplied by the least number that makes all of it integers. Means of integers are
// compared faster, because their lower numbers are short.
func Whole(x []exact.Rat) []exact.Rat {
	low := exact.Common(x)
	out := make([]exact.Rat, len(x))
	for i, a := range x {
		out[i] = exact.Ratio(a.Times(low), exact.Whole(1))
	}
	return out
}

// Chances returns for each state of m the chance of reaching goal in the chain fixed by s. All arguments are
// valid.
func Chances(m api.Model, goal, s []int) []exact.Rat {
	fixed, _ := model.Fix(m, s)
	possible, _, _ := sure.Possible(fixed, goal, 0)
	out := make([]exact.Rat, len(m.States))
	for _, state := range goal {
		out[state] = exact.Of(api.Num{Top: 1, Low: 1})
	}
	unknown := slices.DeleteFunc(possible, func(state int) bool { return out[state].Sign() > 0 })
	for i, chance := range solve(fixed, unknown, out) {
		out[unknown[i]] = chance
	}
	return out
}

// solve returns the numbers of the unknown states of a chain, each of which is the mean of all numbers. x
// contains those of the other states, and 0 for the unknown ones.
func solve(fixed api.Model, unknown []int, x []exact.Rat) []exact.Rat {
	one := exact.Of(api.Num{Top: 1, Low: 1})
	left, right := make([][]exact.Rat, len(unknown)), make([]exact.Rat, len(unknown))
	for i, state := range unknown {
		choice := fixed.States[state].Choices[0]
		left[i], right[i] = make([]exact.Rat, len(unknown)), Mean(choice, x)
		left[i][i] = one
		for _, branch := range choice.Branches {
			if j, found := slices.BinarySearch(unknown, branch.To); found {
				left[i][j] = left[i][j].Sub(exact.Of(branch.Chance))
			}
		}
	}
	out, _ := linear.Solve(left, right)
	return out
}
