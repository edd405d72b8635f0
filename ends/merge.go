package ends

import (
	"dicebox/api"
	"dicebox/exact"
)

// merging replaces each maximal end component by one state.
type merging struct {
	m      api.Model
	end    []*End // the maximal end component of each state, or nil
	number []int  // the number of the new state of each state
	least  []int  // the least state of each new state
}

// newMerging numbers the new states, in the order of their least states.
func newMerging(m api.Model, l []End) merging {
	out := merging{m: m, end: make([]*End, len(m.States)), number: make([]int, len(m.States))}
	for i := range l {
		for _, s := range l[i].States {
			out.end[s] = &l[i]
		}
	}
	for s, end := range out.end {
		if end != nil && end.States[0] < s {
			out.number[s] = out.number[end.States[0]]
			continue
		}
		out.number[s] = len(out.least)
		out.least = append(out.least, s)
	}
	return out
}

// choices returns the choices, of m, that the new state of a state without lesser ones keeps.
func (c merging) choices(least int) []api.Choice {
	end := c.end[least]
	if end == nil {
		return c.m.States[least].Choices
	}
	var out []api.Choice
	for i, s := range end.States {
		for j, choice := range c.m.States[s].Choices {
			if !contains(end.Choices[i], j) {
				out = append(out, choice)
			}
		}
	}
	return out
}

// renamed returns a choice whose branches lead to the new states, or ErrFull if a chance is not valid.
func (c merging) renamed(choice api.Choice) (api.Choice, api.Errno) {
	sums := make([]exact.Rat, len(c.least))
	for _, b := range choice.Branches {
		to := c.number[b.To]
		sums[to] = sums[to].Add(exact.Of(b.Chance))
	}
	out := api.Choice{Reward: choice.Reward}
	for to, sum := range sums {
		if sum.Sign() == 0 {
			continue
		}
		chance, e := sum.Num()
		if e != api.OK {
			return api.Choice{}, e
		}
		out.Branches = append(out.Branches, api.Branch{To: to, Chance: chance})
	}
	return out, api.OK
}

// state returns the new state with a number, or ErrFull if it exceeds the limits of a model.
func (c merging) state(number int) (api.State, api.Errno) {
	least := c.least[number]
	choices := c.choices(least)
	if len(choices) > api.MaxChoices {
		return api.State{}, api.ErrFull
	}
	out := api.State{Owner: c.m.States[least].Owner, Mark: c.m.States[least].Mark}
	for _, choice := range choices {
		renamed, e := c.renamed(choice)
		if e != api.OK {
			return api.State{}, e
		}
		out.Choices = append(out.Choices, renamed)
	}
	if len(choices) == 0 {
		out.Choices = []api.Choice{stop(number)}
	}
	return out, api.OK
}

// stop returns the choice to remain in a state without reward.
func stop(state int) api.Choice {
	zero, one := api.Num{Top: 0, Low: 1}, api.Num{Top: 1, Low: 1}
	return api.Choice{Reward: zero, Branches: []api.Branch{{To: state, Chance: one}}}
}

// Merge returns the model in which each maximal end component becomes one state, and the number of the
// new state of each state. It returns ErrArg if m is not valid, and ErrFull if a new state has more than
// MaxChoices choices or a chance is not valid.
func Merge(m api.Model) (api.Model, []int, api.Errno) {
	l, e := Maximal(m)
	if e != api.OK {
		return api.Model{}, nil, e
	}
	c := newMerging(m, l)
	out := api.Model{States: make([]api.State, len(c.least))}
	for number := range out.States {
		if out.States[number], e = c.state(number); e != api.OK {
			return api.Model{}, nil, e
		}
	}
	return out, c.number, api.OK
}
