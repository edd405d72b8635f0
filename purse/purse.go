// Package purse computes best chances of reaching a goal within a budget. With great budgets the exact numbers
// may be far too long to be computed; then they are hardly ever valid, and it is enough to know
// that. So the numbers are first rounded with each budget. That shows most results that are not valid, and which
// choices matter for the others, which are then computed exactly.
package purse

import (
	"dicebox/api"
	"dicebox/exact"
	"dicebox/policy"
	"dicebox/row"
	"dicebox/sure"
	"slices"
)

// The first precision of rounded numbers, in binary digits, the factor of the next ones, and the last one.
const (
	firstPrecision = 192
	growth         = 8
	lastPrecision  = 1 << 14
)

// game is a model in which one player reaches a goal with costs.
type game struct {
	choices [][]choice // of each state outside of the goal
	goal    []bool
	prefers func(sign int) bool
	// start contains the choices that are made as long as nothing better is known.
	start []int
}

// choice is a choice with what it costs and the row of its means. That row is also kept with integers: what results
// from whole is the mean, multiplied by low.
type choice struct {
	cost  int
	mean  row.Row
	whole row.Row
	low   exact.Int
}

// Chances returns the maximum (minimum) chance of reaching goal with a cost of at most b, from each state of m, or
// ErrFull if a chance is not valid. The cost of a path is the sum of the rewards before the goal. m and goal are
// valid, and all rewards are integers of at least 0.
func Chances(m api.Model, goal []int, b int, max bool) ([]api.Num, api.Errno) {
	g := newGame(m, goal, max)
	p := g.everything(b)
	g.prune(p)
	for precision := firstPrecision; precision <= lastPrecision && precision < g.length(p); precision *= growth {
		restricted, refused := g.estimate(p, precision)
		if refused {
			return nil, api.ErrFull
		}
		g.prune(restricted)
		p = restricted
	}
	exactly := pass{game: g, plan: p, certain: one(), round: func(top exact.Rat, low exact.Int) exact.Rat {
		return top.Mul(exact.Ratio(exact.Whole(1), low))
	}}
	return exact.Nums(exactly.run())
}

// one returns the number 1.
func one() exact.Rat {
	return exact.Of(api.Num{Top: 1, Low: 1})
}

// newGame returns the game of a valid model with a valid goal.
func newGame(m api.Model, goal []int, max bool) *game {
	n := len(m.States)
	g := &game{make([][]choice, n), make([]bool, n), policy.Preference(max), make([]int, n)}
	for _, s := range goal {
		g.goal[s] = true
	}
	for s, state := range m.States {
		if g.goal[s] {
			continue
		}
		for _, c := range state.Choices {
			g.choices[s] = append(g.choices[s], newChoice(c))
		}
	}
	if !max {
		g.avoid(m)
	}
	return g
}

// newChoice returns a choice of a valid model.
func newChoice(c api.Choice) choice {
	mean := row.Of(c, exact.Rat{}, one())
	weights := make([]exact.Rat, len(mean.Parts))
	for i, p := range mean.Parts {
		weights[i] = p.Weight
	}
	weights, low := exact.Scaled(weights)
	whole := row.Row{Parts: slices.Clone(mean.Parts)}
	for i := range whole.Parts {
		whole.Parts[i].Weight = weights[i]
	}
	return choice{c.Reward.Top, mean, whole, low.Top()}
}

// avoid starts with choices that cost nothing and never lead to the goal, in the states where that is possible: they
// do not look better than choices that lead to the goal later on, because their mean is the chance of these.
func (g *game) avoid(m api.Model) {
	free := api.Model{States: slices.Clone(m.States)}
	names := make([][]int, len(m.States)) // the choices of m that remain
	var left []int                        // where none remain, and the goal
	for s, state := range m.States {
		var choices []api.Choice
		for i, c := range state.Choices {
			if c.Reward.Top == 0 {
				choices = append(choices, c)
				names[s] = append(names[s], i)
			}
		}
		if g.goal[s] || len(choices) == 0 {
			left = append(left, s)
			continue
		}
		free.States[s] = api.State{Choices: choices}
	}
	safe, pick, _ := sure.Avoid(free, left, 0)
	for _, s := range safe {
		g.start[s] = names[s][pick[s]]
	}
}
