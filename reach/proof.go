package reach

import (
	"dicebox/api"
	"dicebox/fraction"
	"dicebox/num"
	"dicebox/policy"
	"slices"
)

// Proof proves that its numbers are the values of a model, a goal and max, and that its choices are an
// optimal strategy.
type Proof struct {
	Value []api.Num
	Pick  []int
	Rank  []int
}

// Prove returns a proof. It returns ErrArg if m or goal is not valid, and ErrFull if a value is not
// valid.
func Prove(m api.Model, goal []int, max bool) (Proof, api.Errno) {
	values, pick, e := Best(m, goal, max)
	if e != api.OK {
		return Proof{}, e
	}
	p := Proof{Value: values, Pick: pick}
	p.Rank = claim{m, goal, max, p}.ranks()
	return p, api.OK
}

// Check reports whether p is a proof. It returns ErrArg if m or goal is not valid.
func Check(m api.Model, goal []int, max bool, p Proof) (bool, api.Errno) {
	if e := policy.Check(m, goal); e != api.OK {
		return false, e
	}
	c := claim{m, goal, max, p}
	return c.isComplete() && c.holds(), api.OK
}

// claim is a proof together with what it claims to prove.
type claim struct {
	model api.Model
	goal  []int
	max   bool
	proof Proof
}

// ranks returns ranks for the numbers and choices of a proof: 1 for the states that lead to the goal, and in
// each further round the next rank for those that lead to states that have one. States with the number 0
// remain without, because one of their choices leads only to such states.
func (c claim) ranks() []int {
	out := make([]int, len(c.model.States))
	ranked := make([]bool, len(out))
	for _, s := range c.goal {
		ranked[s] = true
	}
	for round := 1; ; round++ {
		before := slices.Clone(ranked)
		for s := range ranked {
			if !ranked[s] && c.descends(s, before) {
				ranked[s] = true
				out[s] = round
			}
		}
		if slices.Equal(before, ranked) {
			return out
		}
	}
}

// descends reports whether the choices of a state that have to lead to a lesser rank do so: its own one,
// to a state with a number greater than 0 (max), or each of them (min). lesser tells which states have
// lesser ranks.
func (c claim) descends(s int, lesser []bool) bool {
	leads := func(choice api.Choice) bool {
		return slices.ContainsFunc(choice.Branches, func(b api.Branch) bool {
			return lesser[b.To] && (!c.max || c.proof.Value[b.To].Top > 0)
		})
	}
	choices := c.model.States[s].Choices
	if c.max {
		return leads(choices[c.proof.Pick[s]])
	}
	return !slices.ContainsFunc(choices, func(choice api.Choice) bool { return !leads(choice) })
}

// isComplete reports whether there are a number of at least 0 and a choice for each state, and a
// rank.
func (c claim) isComplete() bool {
	n := len(c.model.States)
	if len(c.proof.Value) != n || len(c.proof.Pick) != n || len(c.proof.Rank) != n {
		return false
	}
	for s, state := range c.model.States {
		value, pick := c.proof.Value[s], c.proof.Pick[s]
		if !num.Valid(value) || value.Top < 0 || pick < 0 || pick >= len(state.Choices) {
			return false
		}
	}
	return true
}

// holds reports whether a complete proof has the properties of one in each state.
func (c claim) holds() bool {
	for s, value := range c.proof.Value {
		rank := c.proof.Rank[s]
		switch {
		case policy.Contains(c.goal, s):
			if value != number(1) || rank != 0 {
				return false
			}
		case !c.isBest(s) || !c.isRanked(s):
			return false
		}
	}
	return true
}

// isRanked reports whether the rank of a state that does not belong to the goal is right.
func (c claim) isRanked(s int) bool {
	rank := c.proof.Rank[s]
	if c.proof.Value[s].Top == 0 {
		return rank == 0
	}
	lesser := make([]bool, len(c.proof.Rank))
	for t, other := range c.proof.Rank {
		lesser[t] = other < rank
	}
	return rank >= 1 && rank <= len(c.proof.Rank) && c.descends(s, lesser)
}

// isBest reports whether the number of a state is the mean by its own choice, and no other mean is
// preferred to it.
func (c claim) isBest(s int) bool {
	prefers := policy.Preference(c.max)
	own := fraction.Of(c.proof.Value[s])
	for i, choice := range c.model.States[s].Choices {
		sign := fraction.Mean(choice, c.proof.Value).Cmp(own)
		if prefers(sign) || i == c.proof.Pick[s] && sign != 0 {
			return false
		}
	}
	return true
}
