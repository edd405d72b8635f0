package multi

import (
	"dicebox/api"
	"dicebox/exact"
	"dicebox/linear"
	"dicebox/policy"
	"dicebox/row"
	"slices"
)

// first is the number of the first state.
const first = 0

// game is a model with goals.
type game struct {
	rows   [][]row.Row // the means by all choices
	open   [][]int     // the choices that are considered
	goals  [][]int
	inside []int // the states outside of the goals that the first state leads to and that lead to a goal, in order
	start  []int // a strategy with which all of these lead to a goal
}

// newGame returns the game of the means by all choices, in which all choices are considered.
func newGame(rows [][]row.Row, goals [][]int) game {
	g := game{rows: rows, goals: goals, start: make([]int, len(rows))}
	ended := make([]bool, len(rows))
	for _, goal := range goals {
		for _, s := range goal {
			ended[s] = true
		}
	}
	reached, hopeful := g.reached(ended), g.approach(ended)
	for s := range rows {
		var all []int
		for i := range rows[s] {
			all = append(all, i)
		}
		g.open = append(g.open, all)
		if reached[s] && hopeful[s] && !ended[s] {
			g.inside = append(g.inside, s)
		}
	}
	return g
}

// reached returns the states that the first state leads to before a path has ended.
func (g game) reached(ended []bool) []bool {
	out := make([]bool, len(ended))
	out[first] = true
	for queue := []int{first}; len(queue) > 0; queue = queue[1:] {
		if ended[queue[0]] {
			continue
		}
		for _, r := range g.rows[queue[0]] {
			for _, part := range r.Parts {
				if !out[part.To] {
					out[part.To] = true
					queue = append(queue, part.To)
				}
			}
		}
	}
	return out
}

// approach returns the states that lead to those where paths have ended, and changes start so that they do:
// each of its choices leads to a state that has been found before, so again and again nearer to the end.
func (g game) approach(ended []bool) []bool {
	out := slices.Clone(ended)
	leads := func(r row.Row) bool {
		return slices.ContainsFunc(r.Parts, func(part row.Part) bool { return out[part.To] })
	}
	for again := true; again; {
		again = false
		for s, rows := range g.rows {
			if out[s] {
				continue
			}
			if choice := slices.IndexFunc(rows, leads); choice >= 0 {
				g.start[s] = choice
				out[s], again = true, true
			}
		}
	}
	return out
}

// plan is a strategy with which all states inside lead to a goal, so that they are left sooner or later. Other strategies
// are not needed: if some states do not lead to a goal, choices that do so make no number of the outcome less.
type plan struct {
	pick    []int
	chances [][]exact.Rat // for each goal the chances of ending in it, from each state
}

// plan returns the plan of a strategy.
func (g game) plan(pick []int) plan {
	rows := make([]row.Row, len(g.inside))
	for i, s := range g.inside {
		rows[i] = g.rows[s][pick[s]]
	}
	out := plan{pick: pick}
	for _, goal := range g.goals {
		x := make([]exact.Rat, len(pick))
		for _, s := range goal {
			x[s] = one()
		}
		row.Solve(x, g.inside, rows)
		out.chances = append(out.chances, x)
	}
	return out
}

// worths returns the worth of what the plan attains from each state.
func (p plan) worths(weights []exact.Rat) []exact.Rat {
	out := make([]exact.Rat, len(p.pick))
	for s := range out {
		for i, chances := range p.chances {
			out[s] = out[s].Add(weights[i].Mul(chances[s]))
		}
	}
	return out
}

// outcome returns the outcome of the plan.
func (p plan) outcome() []exact.Rat {
	out := make([]exact.Rat, len(p.chances))
	for i, chances := range p.chances {
		out[i] = chances[first]
	}
	return out
}

// worth returns the worth of the outcome.
func (p plan) worth(weights []exact.Rat) exact.Rat {
	return dot(weights, p.outcome())
}

// dot returns the sum of the products of corresponding numbers of two lists of the same length.
func dot(l, m []exact.Rat) exact.Rat {
	var out exact.Rat
	for i, a := range l {
		out = out.Add(a.Mul(m[i]))
	}
	return out
}

// best returns a plan whose outcome has the greatest worth of all outcomes. The search begins with the best of the
// known plans, if there are any.
func (g game) best(weights []exact.Rat, known ...plan) plan {
	if len(known) == 0 {
		known = []plan{g.plan(g.start)}
	}
	now := slices.MaxFunc(known, func(p, q plan) int { return p.worth(weights).Cmp(q.worth(weights)) })
	for {
		pick, found := g.improved(now, weights)
		if !found {
			return now
		}
		now = g.plan(pick)
	}
}

// improved returns the strategy of a plan with a better choice in each state inside that has one, and whether there
// are any. It belongs to a plan, too: a state without a better choice leads where it did before or to
// a state that has one, and a better choice leads to a goal of a weight greater than 0.
func (g game) improved(p plan, weights []exact.Rat) ([]int, bool) {
	out, found := slices.Clone(p.pick), false
	whole, scale := exact.Scaled(p.worths(weights))
	prefers := policy.Preference(true)
	for _, s := range g.inside {
		rows := make([]row.Row, len(g.open[s]))
		for j, i := range g.open[s] {
			rows[j] = g.rows[s][i]
		}
		if j, mean := row.Best(prefers, whole, scale, rows...); prefers(mean.Cmp(whole[s])) {
			out[s], found = g.open[s][j], true
		}
	}
	return out, found
}

// tight returns the game in which only those choices are considered that have a part in the greatest worth, which
// the plan p attains.
func (g game) tight(p plan, weights []exact.Rat) game {
	whole, scale := exact.Scaled(p.worths(weights))
	g.open = slices.Clone(g.open)
	for _, s := range g.inside {
		g.open[s] = slices.DeleteFunc(slices.Clone(g.open[s]), func(i int) bool {
			return g.rows[s][i].At(whole, scale).Cmp(whole[s]) != 0
		})
	}
	return g
}

// visits returns how often each state inside is expected in a path with a strategy that belongs to a plan, in their
// order.
func (g game) visits(pick []int) []exact.Rat {
	left, right := make([][]exact.Rat, len(g.inside)), make([]exact.Rat, len(g.inside))
	for i, s := range g.inside {
		left[i] = make([]exact.Rat, len(g.inside))
		if s == first {
			right[i] = one()
		}
	}
	for j, s := range g.inside {
		left[j][j] = left[j][j].Add(one())
		for _, part := range g.rows[s][pick[s]].Parts {
			if i, found := slices.BinarySearch(g.inside, part.To); found {
				left[i][j] = left[i][j].Sub(part.Weight)
			}
		}
	}
	out, _ := linear.Solve(left, right)
	return out
}

// ending returns the outcome of a strategy that belongs to a plan, for which a single system of equations is enough.
func (g game) ending(pick []int) []exact.Rat {
	out := make([]exact.Rat, len(g.goals))
	counts := g.visits(pick)
	for i, goal := range g.goals {
		if policy.Contains(goal, first) {
			out[i] = one()
		}
		for j, s := range g.inside {
			for _, part := range g.rows[s][pick[s]].Parts {
				if policy.Contains(goal, part.To) {
					out[i] = out[i].Add(counts[j].Mul(part.Weight))
				}
			}
		}
	}
	return out
}

// outcomeOf returns the outcome of a lottery. It is that of the only strategy if each state has a single choice, whose
// branches are those of all its choices, multiplied by their chances in the lottery.
func outcomeOf(m api.Model, goals [][]int, lottery [][]api.Num) []exact.Rat {
	rows := make([][]row.Row, len(m.States))
	for s, state := range m.States {
		var mixed row.Row
		for i, choice := range state.Choices {
			if chance := lottery[s][i]; chance.Top > 0 {
				mixed.Parts = append(mixed.Parts, row.Of(choice, exact.Rat{}, exact.Of(chance)).Parts...)
			}
		}
		rows[s] = []row.Row{mixed}
	}
	g := newGame(rows, goals)
	return g.ending(g.start)
}
