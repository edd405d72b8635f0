package reach

import (
	"dicebox/api"
	"dicebox/exact"
	"dicebox/policy"
	"dicebox/row"
	"dicebox/sure"
	"slices"
)

// best returns the values of all states, as numbers of any size, and an optimal strategy.
func best(m api.Model, goal []int, max bool) ([]exact.Rat, []int) {
	means, prefers := policy.Means(m), policy.Preference(max)
	pick := start(m, goal, max)
improve:
	for {
		x := policy.Chances(m, goal, pick)
		whole, _ := exact.Scaled(x)
		better := improved(means, goal, pick, whole, prefers)
		for s, choice := range better {
			if choice != pick[s] {
				pick = better
				continue improve
			}
		}
		return x, pick
	}
}

// start returns the strategy that is improved first. For min it has to avoid the goal wherever that is possible:
// a choice that stays away from the goal does not look better than one that reaches it surely, because the
// chances of the latter are its own mean. Elsewhere the goal or those states are reached surely whatever
// is chosen, so only one list of numbers is the best of its own means.
func start(m api.Model, goal []int, max bool) []int {
	single := owned(m)
	if max {
		_, pick, _ := sure.Possible(single, goal, 0)
		return pick
	}
	_, pick, _ := sure.Avoid(single, goal, 0)
	return pick
}

// owned returns m with player 0 as the player of all states.
func owned(m api.Model) api.Model {
	out := api.Model{States: slices.Clone(m.States)}
	for s := range out.States {
		out.States[s].Owner = 0
	}
	return out
}

// improved returns pick with a better choice in each state outside of goal that has one; x contains multiples
// of the chances that pick attains, and means the rows of all choices.
func improved(means [][]row.Row, goal, pick []int, x []exact.Rat, prefers func(sign int) bool) []int {
	out := slices.Clone(pick)
	for s, rows := range means {
		if policy.Contains(goal, s) {
			continue
		}
		if choice, mean := row.Best(prefers, x, exact.Of(number(1)), rows...); prefers(mean.Cmp(x[s])) {
			out[s] = choice
		}
	}
	return out
}
