// Package policy computes means by choices, and the chances that strategies attain, with numbers of any size.
// The layers improve strategies with it: the chances on the way to the best strategy may be not
// valid although the best ones are.
package policy

import (
	"dicebox/api"
	"dicebox/exact"
	"dicebox/model"
	"dicebox/row"
	"dicebox/sure"
	"slices"
)

// Check returns ErrArg unless m is valid, goal is a valid set of its states and s consists of valid strategies
// for it.
func Check(m api.Model, goal []int, s ...[]int) api.Errno {
	if valid, e := model.ValidSet(m, goal); e != api.OK || !valid {
		return api.ErrArg
	}
	for _, l := range s {
		if valid, _ := model.ValidStrategy(m, l); !valid {
			return api.ErrArg
		}
	}
	return api.OK
}

// Preference returns a function that reports whether the result of a comparison speaks for the first of
// two numbers: the greater one if max is true, otherwise the lesser one.
func Preference(max bool) func(sign int) bool {
	if max {
		return func(sign int) bool { return sign > 0 }
	}
	return func(sign int) bool { return sign < 0 }
}

// Contains reports whether the state s belongs to a set.
func Contains(l []int, s int) bool {
	_, found := slices.BinarySearch(l, s)
	return found
}

// Means returns for each state of m the rows of the means by its choices.
func Means(m api.Model) [][]row.Row {
	out := make([][]row.Row, len(m.States))
	for s, state := range m.States {
		for _, c := range state.Choices {
			out[s] = append(out[s], row.Of(c, exact.Rat{}, one()))
		}
	}
	return out
}

// one returns the number 1.
func one() exact.Rat {
	return exact.Of(api.Num{Top: 1, Low: 1})
}

// Chances returns for each state of m the chance of reaching goal in the chain fixed by s. All arguments are
// valid.
func Chances(m api.Model, goal, s []int) []exact.Rat {
	fixed, _ := model.Fix(m, s)
	possible, _, _ := sure.Possible(fixed, goal, 0)
	out := make([]exact.Rat, len(m.States))
	for _, state := range goal {
		out[state] = one()
	}
	unknown := slices.DeleteFunc(possible, func(state int) bool { return out[state].Sign() > 0 })
	rows := make([]row.Row, len(unknown))
	for i, state := range unknown {
		rows[i] = row.Of(fixed.States[state].Choices[0], exact.Rat{}, one())
	}
	row.Solve(out, unknown, rows)
	return out
}
