package mean

import (
	"dicebox/exact"
	"dicebox/row"
)

// solve returns an optimal strategy with its averages and biases. Each round improves some averages, or else, while all
// averages remain, some biases, and makes none of these worse. Where a choice changes in a bottom component of the new
// strategy, the average there improves; where none does, averages and biases remain, because the bias of the
// same first state is 0; and elsewhere a change has the effect that it promises. So no strategy comes up twice.
func (g game) solve() worth {
	pick := make([]int, len(g.means))
	var w worth
improving:
	for {
		w = g.averages(pick)
		switch {
		case w.improveAverages():
		case w.improveBiases():
		default:
			break improving
		}
	}
	return w
}

// improveAverages changes the choices of the strategy to those with the best mean of the averages where that
// is better, and reports whether there are any.
func (w worth) improveAverages() bool {
	found := false
	average, scale := exact.Scaled(w.average)
	for s, rows := range w.means {
		if choice, mean := row.Best(w.prefers, average, scale, rows...); w.prefers(mean.Cmp(average[s])) {
			w.pick[s], found = choice, true
		}
	}
	return found
}

// improveBiases completes the biases and changes the choices of the strategy, among those that keep the averages, to
// those with the best sum of Reward and mean of the biases where that is better. It reports whether there are any.
func (w worth) improveBiases() bool {
	w.addBiases()
	found := false
	average, averageScale := exact.Scaled(w.average)
	bias, scale := exact.Scaled(w.bias)
	for s, means := range w.means {
		var keeping []int
		var sums []row.Row
		for i, mean := range means {
			if mean.At(average, averageScale).Cmp(average[s]) == 0 {
				keeping, sums = append(keeping, i), append(sums, w.sums[s][i])
			}
		}
		own := w.average[s].Mul(scale).Add(bias[s])
		if i, sum := row.Best(w.prefers, bias, scale, sums...); w.prefers(sum.Cmp(own)) {
			w.pick[s], found = keeping[i], true
		}
	}
	return found
}
