package mean

import (
	"dicebox/api"
	"dicebox/exact"
	"dicebox/graph"
	"dicebox/linear"
	"dicebox/model"
	"dicebox/policy"
	"dicebox/row"
	"slices"
)

// game is a model in which averages are compared.
type game struct {
	model   api.Model
	means   [][]row.Row // the means by all choices
	sums    [][]row.Row // the Rewards plus the means by all choices
	prefers func(sign int) bool
}

// newGame returns the game of a valid model.
func newGame(m api.Model, max bool) game {
	g := game{m, policy.Means(m), policy.Means(m), policy.Preference(max)}
	for s, state := range m.States {
		for i, choice := range state.Choices {
			g.sums[s][i].Gain = exact.Of(choice.Reward)
		}
	}
	return g
}

// worth is what is known of a strategy. Its biases tell apart strategies with the same averages: they say by how much
// more is expected from a state, in the long run, than from the first states of the bottom components that follow,
// apart from the averages. The bias of these first states is 0.
type worth struct {
	game
	pick          []int
	classes       [][]int // the bottom components of the chain fixed by it
	average, bias []exact.Rat
}

// averages returns a strategy with its averages. In each bottom component, all averages are equal; elsewhere
// they are the means of those of the next states.
func (g game) averages(pick []int) worth {
	fixed, _ := model.Fix(g.model, pick)
	classes, _ := graph.Bottom(fixed)
	n := len(pick)
	w := worth{g, pick, classes, make([]exact.Rat, n), make([]exact.Rat, n)}
	for _, class := range classes {
		w.settle(class)
	}
	first := classes[0][0]
	isOther := func(class []int) bool { return w.average[class[0]].Cmp(w.average[first]) != 0 }
	if !slices.ContainsFunc(classes, isOther) {
		// a shortcut: what is equal in all bottom components is so everywhere
		for s := range w.average {
			w.average[s] = w.average[first]
		}
		return w
	}
	passing, rows := w.passing(), []row.Row{}
	for _, s := range passing {
		rows = append(rows, g.means[s][pick[s]])
	}
	row.Solve(w.average, passing, rows)
	return w
}

// passing returns the states outside of the bottom components.
func (w worth) passing() []int {
	var out []int
	for s := range w.pick {
		if !slices.ContainsFunc(w.classes, func(class []int) bool { return policy.Contains(class, s) }) {
			out = append(out, s)
		}
	}
	return out
}

// one returns the number 1.
func one() exact.Rat {
	return exact.Of(api.Num{Top: 1, Low: 1})
}

// settle finds the average and the biases of a bottom component. In its equations, the sum of the average and of the
// bias of a state is the sum of its choice; the average takes the place of the bias of the first state.
func (w worth) settle(class []int) {
	left, right := make([][]exact.Rat, len(class)), make([]exact.Rat, len(class))
	for i, s := range class {
		sum := w.sums[s][w.pick[s]]
		left[i], right[i] = make([]exact.Rat, len(class)), sum.Gain
		left[i][i] = one()
		for _, part := range sum.Parts {
			j, _ := slices.BinarySearch(class, part.To)
			left[i][j] = left[i][j].Sub(part.Weight)
		}
		left[i][0] = one()
	}
	x, _ := linear.Solve(left, right)
	for i, s := range class {
		w.average[s] = x[0]
		if i > 0 {
			w.bias[s] = x[i]
		}
	}
}

// addBiases completes the biases: outside of the bottom components, the sum of the average and of the bias of a state is
// the sum of its choice, too.
func (w worth) addBiases() {
	passing, rows := w.passing(), []row.Row{}
	for _, s := range passing {
		sum := w.sums[s][w.pick[s]]
		rows = append(rows, row.Row{Gain: sum.Gain.Sub(w.average[s]), Parts: sum.Parts})
	}
	row.Solve(w.bias, passing, rows)
}
