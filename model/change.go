package model

import (
	"cmp"
	"dicebox/api"
	"slices"
)

// changed returns the model whose state i is change(i), with memory of its own.
func changed(n int, change func(i int) api.State) api.Model {
	out := api.Model{States: make([]api.State, n)}
	for i := range out.States {
		state := change(i)
		choices := make([]api.Choice, len(state.Choices))
		for j, choice := range state.Choices {
			choices[j] = api.Choice{Reward: choice.Reward, Branches: slices.Clone(choice.Branches)}
		}
		state.Choices = choices
		out.States[i] = state
	}
	return out
}

// only returns the state s with a single choice.
func only(s api.State, choice api.Choice) api.State {
	return api.State{Owner: s.Owner, Mark: s.Mark, Choices: []api.Choice{choice}}
}

// Fix returns the model fixed by s. It returns ErrArg if m or s is not valid.
func Fix(m api.Model, s []int) (api.Model, api.Errno) {
	if !Valid(m) || !isStrategy(m, s) {
		return api.Model{}, api.ErrArg
	}
	return changed(len(m.States), func(i int) api.State {
		state := m.States[i]
		return only(state, state.Choices[s[i]])
	}), api.OK
}

// FixFor returns the model fixed by s for one player. It returns ErrArg if m or s is not valid, and
// ErrRange unless player is 0 or 1.
func FixFor(m api.Model, s []int, player int) (api.Model, api.Errno) {
	if !Valid(m) || !isStrategy(m, s) {
		return api.Model{}, api.ErrArg
	}
	if player < 0 || player > 1 {
		return api.Model{}, api.ErrRange
	}
	return changed(len(m.States), func(i int) api.State {
		state := m.States[i]
		if state.Owner != player {
			return state
		}
		return only(state, state.Choices[s[i]])
	}), api.OK
}

// Rename returns the model whose state i is state order[i] of m. It returns ErrArg if m is not valid,
// and ErrRange unless order contains each state exactly once.
func Rename(m api.Model, order []int) (api.Model, api.Errno) {
	if !Valid(m) {
		return api.Model{}, api.ErrArg
	}
	names, complete := inverse(order, len(m.States))
	if !complete {
		return api.Model{}, api.ErrRange
	}
	out := changed(len(order), func(i int) api.State {
		return m.States[order[i]]
	})
	for _, state := range out.States {
		for _, choice := range state.Choices {
			rename(choice.Branches, names)
		}
	}
	return out, api.OK
}

// inverse returns the position of each number below n in order, and whether order contains each of
// them exactly once.
func inverse(order []int, n int) ([]int, bool) {
	if len(order) != n {
		return nil, false
	}
	out := slices.Repeat([]int{-1}, n)
	for i, state := range order {
		if state < 0 || state >= n || out[state] >= 0 {
			return nil, false
		}
		out[state] = i
	}
	return out, true
}

// rename gives the states of branches their new names and sorts the branches again.
func rename(l []api.Branch, names []int) {
	for i := range l {
		l[i].To = names[l[i].To]
	}
	slices.SortFunc(l, func(a, b api.Branch) int {
		return cmp.Compare(a.To, b.To)
	})
}

// Goal returns the model in which each state of goal returns to itself without reward. It returns
// ErrArg if m is not valid or goal is not a valid set.
func Goal(m api.Model, goal []int) (api.Model, api.Errno) {
	if !Valid(m) || !isSet(m, goal) {
		return api.Model{}, api.ErrArg
	}
	return changed(len(m.States), func(i int) api.State {
		if _, found := slices.BinarySearch(goal, i); !found {
			return m.States[i]
		}
		stay := []api.Branch{{To: i, Chance: one()}}
		return only(m.States[i], api.Choice{Reward: api.Num{Top: 0, Low: 1}, Branches: stay})
	}), api.OK
}
