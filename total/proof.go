package total

import (
	"dicebox/api"
	"dicebox/chain"
	"dicebox/fraction"
	"dicebox/num"
	"dicebox/policy"
	"slices"
)

// Proof proves that its values are those of a model, a goal and max, and that its choices are an optimal
// strategy.
type Proof struct {
	Value []chain.Value
	Pick  []int
	Rank  []int
}

// Prove returns a proof. It returns ErrArg if m or goal is not valid, ErrKind unless all rewards are at least 0,
// and ErrFull if a finite value is not valid.
func Prove(m api.Model, goal []int, max bool) (Proof, api.Errno) {
	values, pick, e := Best(m, goal, max)
	if e != api.OK {
		return Proof{}, e
	}
	c := claim{m, goal, max, Proof{values, pick, make([]int, len(values))}}
	c.rankFinite()
	if max {
		c.rankEscapes()
	} else {
		c.rankTraps()
	}
	return c.proof, api.OK
}

// Check reports whether p is a proof. It returns ErrArg if m or goal is not valid, and ErrKind unless all rewards
// are at least 0.
func Check(m api.Model, goal []int, max bool, p Proof) (bool, api.Errno) {
	if e := check(m, goal); e != api.OK {
		return false, e
	}
	c := claim{m, goal, max, p}
	if !c.isComplete() {
		return false, api.OK
	}
	for s := range m.States {
		if !c.holds(s) {
			return false, api.OK
		}
	}
	return true, api.OK
}

// claim is a proof together with what it claims to prove.
type claim struct {
	model api.Model
	goal  []int
	max   bool
	proof Proof
}

// choices returns the choices of a state.
func (c claim) choices(s int) []api.Choice {
	return c.model.States[s].Choices
}

// picked returns the choice Pick of a state.
func (c claim) picked(s int) api.Choice {
	return c.choices(s)[c.proof.Pick[s]]
}

// infinite reports whether the value of a state is infinite.
func (c claim) infinite(s int) bool {
	return c.proof.Value[s].Inf
}

// touches reports whether some branch of a choice leads to a state with a property.
func touches(choice api.Choice, has func(s int) bool) bool {
	return slices.ContainsFunc(choice.Branches, func(b api.Branch) bool { return has(b.To) })
}

// staysIn reports whether all branches of a choice lead to states with a property.
func staysIn(choice api.Choice, has func(s int) bool) bool {
	return !touches(choice, func(s int) bool { return !has(s) })
}

// all reports whether all choices of a list have a property.
func all(choices []api.Choice, has func(choice api.Choice) bool) bool {
	return !slices.ContainsFunc(choices, func(choice api.Choice) bool { return !has(choice) })
}

// isComplete reports whether there are a value, a choice and a rank for each state. A value is a number of at
// least 0, or infinite.
func (c claim) isComplete() bool {
	n := len(c.model.States)
	if len(c.proof.Value) != n || len(c.proof.Pick) != n || len(c.proof.Rank) != n {
		return false
	}
	for s, v := range c.proof.Value {
		pick := c.proof.Pick[s]
		switch {
		case pick < 0 || pick >= len(c.choices(s)):
			return false
		case v.Inf && v.Num != api.Num{}:
			return false
		case !v.Inf && (!num.Valid(v.Num) || v.Num.Top < 0):
			return false
		}
	}
	return true
}

// holds reports whether what a complete proof says of a state has the properties of a proof.
func (c claim) holds(s int) bool {
	rank := c.proof.Rank[s]
	switch {
	case policy.Contains(c.goal, s):
		return c.proof.Value[s] == chain.Value{Num: number(0)} && rank == 0
	case rank < 0 || rank > len(c.proof.Rank):
		return false
	case !c.infinite(s):
		return rank > 0 && c.isBest(s) && c.approaches(s, c.isLesser(rank))
	case c.max:
		return c.escapes(s)
	}
	return rank > 0 && c.isTrapped(s)
}

// isLesser returns a function that reports whether a state has a lesser rank.
func (c claim) isLesser(rank int) func(s int) bool {
	return func(s int) bool { return c.proof.Rank[s] < rank }
}

// isBest reports whether the number of a state is the sum of its own choice, and no sum that is defined is
// preferred to it. For max all of them have to be defined.
func (c claim) isBest(s int) bool {
	prefers := policy.Preference(c.max)
	own := fraction.Of(c.proof.Value[s].Num)
	numbers := make([]api.Num, len(c.proof.Value))
	for t, v := range c.proof.Value {
		numbers[t] = v.Num
	}
	for i, choice := range c.choices(s) {
		isPick := i == c.proof.Pick[s]
		if touches(choice, c.infinite) {
			if c.max || isPick {
				return false
			}
			continue
		}
		sign := fraction.Of(choice.Reward).Add(fraction.Mean(choice, numbers)).Cmp(own)
		if prefers(sign) || isPick && sign != 0 {
			return false
		}
	}
	return true
}

// approaches reports whether each choice (max) or the choice Pick (min) of a state leads to a state with a finite
// number and a property.
func (c claim) approaches(s int, has func(s int) bool) bool {
	leads := func(choice api.Choice) bool {
		return touches(choice, func(t int) bool { return !c.infinite(t) && has(t) })
	}
	if c.max {
		return all(c.choices(s), leads)
	}
	return leads(c.picked(s))
}

// escapes reports, for max, whether the rank of a state with an infinite value is right: its choice Pick stays
// among the states from which the goal is never reached, or it leads nearer to them.
func (c claim) escapes(s int) bool {
	rank := c.proof.Rank[s]
	if rank == 0 {
		return staysIn(c.picked(s), func(t int) bool { return c.infinite(t) && c.proof.Rank[t] == 0 })
	}
	lesser := c.isLesser(rank)
	return touches(c.picked(s), func(t int) bool { return c.infinite(t) && lesser(t) })
}

// isTrapped reports, for min, whether the rank of a state with an infinite value is right: each of its choices leads
// to such a state with a lesser rank, or stays among those with the same one.
func (c claim) isTrapped(s int) bool {
	rank := c.proof.Rank[s]
	lesser := c.isLesser(rank)
	return all(c.choices(s), func(choice api.Choice) bool {
		return touches(choice, func(t int) bool { return c.infinite(t) && lesser(t) }) ||
			staysIn(choice, func(t int) bool { return c.infinite(t) && c.proof.Rank[t] == rank })
	})
}
