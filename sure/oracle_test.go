package sure

import (
	"dicebox/api"
	"dicebox/chain"
	"dicebox/model"
	"math/rand"
	"slices"
	"testing"
)

// read reads a model.
func read(text string) api.Model {
	m, e := model.Parse(text)
	if e != api.OK {
		panic(text)
	}
	return m
}

// choice returns a choice that leads to each of the states with the same chance.
func choice(to ...int) api.Choice {
	out := api.Choice{Reward: api.Num{Top: 1, Low: 1}}
	for _, t := range to {
		out.Branches = append(out.Branches, api.Branch{To: t, Chance: api.Num{Top: 1, Low: len(to)}})
	}
	return out
}

// sample returns a plain game with n states; each of them has at most a number of choices.
func sample(r *rand.Rand, n, choices int) api.Model {
	var out api.Model
	for range n {
		state := api.State{Owner: r.Intn(2)}
		for range r.Intn(choices) + 1 {
			to := r.Perm(n)[:r.Intn(min(n, 3))+1]
			slices.Sort(to)
			state.Choices = append(state.Choices, choice(to...))
		}
		out.States = append(out.States, state)
	}
	return out
}

// subset returns a set of states with at most a number of them; sometimes an empty one.
func subset(r *rand.Rand, n, most int) []int {
	l := r.Perm(n)[:r.Intn(min(n, most)+1)]
	slices.Sort(l)
	return l
}

// anyStrategy returns a strategy of a player alone.
func anyStrategy(r *rand.Rand, m api.Model, p int) []int {
	out := make([]int, len(m.States))
	for i, state := range m.States {
		if state.Owner == p {
			out[i] = r.Intn(len(state.Choices))
		}
	}
	return out
}

// strategies returns all strategies of a player alone.
func strategies(m api.Model, p int) [][]int {
	out := [][]int{nil}
	for _, state := range m.States {
		choices := 1
		if state.Owner == p {
			choices = len(state.Choices)
		}
		var longer [][]int
		for _, s := range out {
			for c := range choices {
				longer = append(longer, append(slices.Clone(s), c))
			}
		}
		out = longer
	}
	return out
}

// outcome tells of a strategy of one player, for each state, what holds for all answers.
type outcome struct {
	positive, one, zero []bool
}

// outcomeOf computes the chances of the goal for a strategy of p and all answers.
func outcomeOf(t *testing.T, m api.Model, goal []int, p int, s []int) outcome {
	t.Helper()
	n := len(m.States)
	yes := func() []bool { return slices.Repeat([]bool{true}, n) }
	out := outcome{yes(), yes(), yes()}
	for _, answer := range strategies(m, 1-p) {
		both := make([]int, n)
		for i := range both {
			both[i] = s[i] + answer[i] // one of them is 0
		}
		fixed, e := model.Fix(m, both)
		chances, f := chain.Reach(fixed, goal)
		if e != api.OK || f != api.OK {
			t.Fatalf("%d %d", e, f)
		}
		for i, a := range chances {
			out.positive[i] = out.positive[i] && a.Top > 0
			out.one[i] = out.one[i] && a.Top == a.Low
			out.zero[i] = out.zero[i] && a.Top == 0
		}
	}
	return out
}

// states returns the positions at which l is true.
func states(l []bool) []int {
	var out []int
	for i, is := range l {
		if is {
			out = append(out, i)
		}
	}
	return out
}

// isSubset reports whether all states of l belong to k.
func isSubset(l, k []int) bool {
	return !slices.ContainsFunc(l, func(s int) bool { return !slices.Contains(k, s) })
}

// otherChances returns the same game with other chances for its branches.
func otherChances(r *rand.Rand, m api.Model) api.Model {
	out := api.Model{States: slices.Clone(m.States)}
	for i := range out.States {
		choices := slices.Clone(out.States[i].Choices)
		for j := range choices {
			branches := slices.Clone(choices[j].Branches)
			rest := 1 << 40
			for k := range branches {
				part := r.Intn(rest/2) + 1
				if k == len(branches)-1 {
					part = rest
				}
				rest -= part
				branches[k].Chance = ratio(part, 1<<40)
			}
			choices[j].Branches = branches
		}
		out.States[i].Choices = choices
	}
	return out
}

// ratio returns the number top / low in lowest terms; low is a power of 2.
func ratio(top, low int) api.Num {
	for low > 1 && top%2 == 0 {
		top, low = top/2, low/2
	}
	return api.Num{Top: top, Low: low}
}
