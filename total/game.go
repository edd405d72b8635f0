package total

import (
	"dicebox/api"
	"dicebox/chain"
	"dicebox/exact"
	"dicebox/model"
	"dicebox/policy"
	"dicebox/row"
	"dicebox/sure"
	"iter"
	"slices"
)

// value is a number of any size, or infinite.
type value struct {
	number   exact.Rat
	infinite bool
}

// results returns values as results, or ErrFull if a number is not valid.
func results(x []value) ([]chain.Value, api.Errno) {
	out := make([]chain.Value, len(x))
	for s, v := range x {
		if v.infinite {
			out[s].Inf = true
			continue
		}
		number, e := v.number.Num()
		if e != api.OK {
			return nil, e
		}
		out[s].Num = number
	}
	return out, api.OK
}

// compare returns -1, 0 or 1 if v is less than, equal to or greater than w.
func (v value) compare(w value) int {
	switch {
	case v.infinite && w.infinite:
		return 0
	case v.infinite:
		return 1
	case w.infinite:
		return -1
	}
	return v.number.Cmp(w.number)
}

// betterOf returns a function that reports whether the first of two values is better.
func betterOf(max bool) func(v, w value) bool {
	prefers := policy.Preference(max)
	return func(v, w value) bool { return prefers(v.compare(w)) }
}

// game is a model, all of whose states belong to player 0, with a goal.
type game struct {
	model api.Model
	goal  []int
	max   bool
	rows  [][]row.Row // the sums of all choices
}

// newGame returns the game of a valid model with a valid goal.
func newGame(m api.Model, goal []int, max bool) game {
	g := game{api.Model{States: slices.Clone(m.States)}, goal, max, nil}
	for s := range g.model.States {
		g.model.States[s].Owner = 0
		g.rows = append(g.rows, sums(m.States[s]))
	}
	return g
}

// solve returns the values of all states, and an optimal strategy.
func (g game) solve() ([]value, []int) {
	pick := g.start()
	for {
		x := g.expectations(pick)
		if !g.improve(x, pick) {
			return x, pick
		}
	}
}

// start returns the strategy that is improved first. It attains the infinite values of max, and for min it reaches the goal
// surely wherever that is possible. So do the strategies that follow for min: among states that are never left, no
// choice looks better than the expectations there, because rewards are at least 0.
func (g game) start() []int {
	if !g.max {
		_, pick, _ := sure.Sure(g.model, g.goal, 0)
		return pick
	}
	safe, stay, _ := sure.Avoid(g.model, g.goal, 0)
	stopped, _ := model.Goal(g.model, g.goal)
	_, pick, _ := sure.Possible(stopped, safe, 0)
	for _, s := range safe {
		pick[s] = stay[s]
	}
	return pick
}

// expectations returns the expectation of s from each state.
func (g game) expectations(s []int) []value {
	fixed, _ := model.Fix(g.model, s)
	surely, _, _ := sure.Sure(fixed, g.goal, 0)
	unknown := slices.DeleteFunc(slices.Clone(surely), func(state int) bool { return policy.Contains(g.goal, state) })
	rows := make([]row.Row, len(unknown))
	for i, state := range unknown {
		rows[i] = g.rows[state][s[state]]
	}
	numbers := make([]exact.Rat, len(s))
	row.Solve(numbers, unknown, rows)
	out := make([]value, len(s))
	for state, number := range numbers {
		out[state] = value{number, !policy.Contains(surely, state)}
	}
	return out
}

// choices returns the choices of all states outside of the goal.
func (g game) choices() iter.Seq2[int, int] {
	return func(yield func(state, choice int) bool) {
		for s, rows := range g.rows {
			if policy.Contains(g.goal, s) {
				continue
			}
			for i := range rows {
				if !yield(s, i) {
					return
				}
			}
		}
	}
}

// improve changes each choice of pick to the best one, if that is better, and reports whether there is such
// a choice. x contains the expectations of pick.
func (g game) improve(x []value, pick []int) bool {
	found := false
	whole, scale := scaled(x)
	best, better := slices.Clone(whole), betterOf(g.max)
	for s, i := range g.choices() {
		if v := sum(g.rows[s][i], whole, scale); better(v, best[s]) {
			best[s], pick[s] = v, i
			found = true
		}
	}
	return found
}

// scaled returns values, multiplied by the least number that makes all of them integers, and that number.
func scaled(x []value) ([]value, exact.Rat) {
	numbers := make([]exact.Rat, len(x))
	for s, v := range x {
		numbers[s] = v.number
	}
	whole, scale := exact.Scaled(numbers)
	out := make([]value, len(x))
	for s, v := range x {
		out[s] = value{whole[s], v.infinite}
	}
	return out, scale
}

// sum returns the sum of the choice of a row: infinite unless it is defined. x contains the values of all states,
// multiplied by scale, and so is the sum.
func sum(r row.Row, x []value, scale exact.Rat) value {
	numbers := make([]exact.Rat, len(x))
	for _, p := range r.Parts {
		if x[p.To].infinite {
			return value{infinite: true}
		}
		numbers[p.To] = x[p.To].number
	}
	return value{number: r.At(numbers, scale)}
}
