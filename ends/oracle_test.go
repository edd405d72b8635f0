package ends

import (
	"dicebox/api"
	"dicebox/model"
	"math/big"
	"math/rand"
	"slices"
)

// read reads a model.
func read(text string) api.Model {
	m, e := model.Parse(text)
	if e != api.OK {
		panic(text)
	}
	return m
}

// choice returns a choice that leads to each of the states with the same chance.
func choice(reward int, to ...int) api.Choice {
	out := api.Choice{Reward: api.Num{Top: reward, Low: 1}}
	for _, t := range to {
		out.Branches = append(out.Branches, api.Branch{To: t, Chance: api.Num{Top: 1, Low: len(to)}})
	}
	return out
}

// sample returns a valid model with n states; each of them has at most a number of choices, and those
// have at most a number of branches, to states whose numbers differ from it by at most width.
func sample(r *rand.Rand, n, choices, branches, width int) api.Model {
	var out api.Model
	for s := range n {
		state := api.State{Owner: r.Intn(2), Mark: r.Intn(64)}
		near := numbers(n)[max(s-width, 0):min(s+width+1, n)]
		for range r.Intn(choices) + 1 {
			r.Shuffle(len(near), func(i, j int) { near[i], near[j] = near[j], near[i] })
			to := slices.Sorted(slices.Values(near[:r.Intn(min(len(near), branches))+1]))
			state.Choices = append(state.Choices, choice(r.Intn(9), to...))
		}
		out.States = append(out.States, state)
	}
	return out
}

// risky returns a sample in which many choices may lead to the last state, which is a dead end.
func risky(r *rand.Rand, n, choices, branches, width int) api.Model {
	out := sample(r, n, choices, branches, width)
	for _, state := range out.States {
		for j, c := range state.Choices {
			to := []int{n - 1}
			for _, b := range c.Branches {
				to = append(to, b.To)
			}
			slices.Sort(to)
			if r.Intn(3) > 0 {
				state.Choices[j] = choice(r.Intn(9), slices.Compact(to)...)
			}
		}
	}
	out.States[n-1].Choices = []api.Choice{choice(1, n-1)}
	return out
}

// subset returns a set of states; sometimes an empty one.
func subset(r *rand.Rand, n int) []int {
	l := r.Perm(n)[:r.Intn(n+1)]
	slices.Sort(l)
	return l
}

// sublists returns all lists that result from l by omitting elements, the empty one included.
func sublists(l []int) [][]int {
	out := [][]int{nil}
	for _, x := range l {
		for _, k := range slices.Clone(out) {
			out = append(out, append(slices.Clone(k), x))
		}
	}
	return out
}

// numbers returns the numbers below n.
func numbers(n int) []int {
	var out []int
	for i := range n {
		out = append(out, i)
	}
	return out
}

// candidates returns all sets of states with a set of choices, which may be empty, for each of them.
func candidates(m api.Model) []End {
	var out []End
	for _, states := range sublists(numbers(len(m.States))) {
		choices := [][][]int{nil}
		for _, s := range states {
			var longer [][][]int
			for _, l := range choices {
				for _, k := range sublists(numbers(len(m.States[s].Choices))) {
					longer = append(longer, append(slices.Clone(l), k))
				}
			}
			choices = longer
		}
		for _, l := range choices {
			out = append(out, End{states, l})
		}
	}
	return out
}

// isEndComponent follows the definition of the document.
func isEndComponent(m api.Model, e End) bool {
	if len(e.States) == 0 {
		return false
	}
	for i, s := range e.States {
		if len(e.Choices[i]) == 0 {
			return false
		}
		for _, c := range e.Choices[i] {
			for _, b := range m.States[s].Choices[c].Branches {
				if !slices.Contains(e.States, b.To) {
					return false
				}
			}
		}
	}
	isCut := func(s int) bool { return len(walk(m, e, s)) < len(e.States) }
	return !slices.ContainsFunc(e.States, isCut)
}

// walk returns the states that are reached from s with the choices of e.
func walk(m api.Model, e End, s int) []int {
	out := []int{s}
	for i := 0; i < len(out); i++ {
		at := slices.Index(e.States, out[i])
		for _, c := range e.Choices[at] {
			for _, b := range m.States[out[i]].Choices[c].Branches {
				if !slices.Contains(out, b.To) {
					out = append(out, b.To)
				}
			}
		}
	}
	return out
}

// isSubset reports whether all states of l belong to k.
func isSubset(l, k []int) bool {
	return !slices.ContainsFunc(l, func(s int) bool { return !slices.Contains(k, s) })
}

// isPart reports whether all states and choices of d belong to e.
func isPart(d, e End) bool {
	for i, s := range d.States {
		if at := slices.Index(e.States, s); at < 0 || !isSubset(d.Choices[i], e.Choices[at]) {
			return false
		}
	}
	return true
}

// isEqual reports whether d and e are the same.
func isEqual(d, e End) bool {
	return slices.Equal(d.States, e.States) && slices.EqualFunc(d.Choices, e.Choices, slices.Equal[[]int])
}

// maximal returns the elements of l that are not part of another one, ordered by their least states.
func maximal(l []End) []End {
	var out []End
	for _, d := range l {
		if !slices.ContainsFunc(l, func(e End) bool { return isPart(d, e) && !isEqual(d, e) }) {
			out = append(out, d)
		}
	}
	slices.SortFunc(out, func(d, e End) int { return d.States[0] - e.States[0] })
	return out
}

// strategies returns all strategies of m.
func strategies(m api.Model) [][]int {
	out := [][]int{nil}
	for _, state := range m.States {
		var longer [][]int
		for _, s := range out {
			for c := range state.Choices {
				longer = append(longer, append(slices.Clone(s), c))
			}
		}
		out = longer
	}
	return out
}

// merged returns the model of Merge, computed state by state from the maximal end components l, and the
// numbers of its states; false if it exceeds a limit.
func merged(m api.Model, l []End) (api.Model, []int, bool) {
	least := numbers(len(m.States)) // of the end component of each state
	inside := map[[2]int]bool{}
	for _, e := range l {
		for i, s := range e.States {
			least[s] = e.States[0]
			for _, c := range e.Choices[i] {
				inside[[2]int{s, c}] = true
			}
		}
	}
	order := slices.Compact(slices.Sorted(slices.Values(least)))
	number := make([]int, len(m.States))
	for s := range number {
		number[s] = slices.Index(order, least[s])
	}
	var out api.Model
	for i, first := range order {
		state := api.State{Owner: m.States[first].Owner, Mark: m.States[first].Mark}
		for s := range m.States {
			for j, c := range m.States[s].Choices {
				if least[s] != first || inside[[2]int{s, j}] {
					continue
				}
				d, valid := added(c, number, len(order))
				if !valid {
					return api.Model{}, nil, false
				}
				state.Choices = append(state.Choices, d)
			}
		}
		if len(state.Choices) > api.MaxChoices {
			return api.Model{}, nil, false
		}
		if len(state.Choices) == 0 {
			state.Choices = []api.Choice{choice(0, i)}
		}
		out.States = append(out.States, state)
	}
	return out, number, true
}

// added returns a choice with new numbers of states; false if a chance is not valid.
func added(c api.Choice, number []int, n int) (api.Choice, bool) {
	out := api.Choice{Reward: c.Reward}
	limit := big.NewInt(api.MaxNum)
	for to := range n {
		sum := new(big.Rat)
		for _, b := range c.Branches {
			if number[b.To] == to {
				sum.Add(sum, big.NewRat(int64(b.Chance.Top), int64(b.Chance.Low)))
			}
		}
		if sum.Sign() == 0 {
			continue
		}
		if sum.Denom().Cmp(limit) > 0 {
			return api.Choice{}, false
		}
		chance := api.Num{Top: int(sum.Num().Int64()), Low: int(sum.Denom().Int64())}
		out.Branches = append(out.Branches, api.Branch{To: to, Chance: chance})
	}
	return out, true
}
