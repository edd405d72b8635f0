package discount

import (
	"dicebox/api"
	"dicebox/exact"
	"dicebox/row"
	"slices"
)

// prefers reports whether the result of a comparison speaks, for a player, for the first of two numbers:
// player 0 wants the greater one, player 1 the lesser one.
func prefers(player, sign int) bool {
	if player == 0 {
		return sign > 0
	}
	return sign < 0
}

// game contains the rows of the yields of all choices.
type game struct {
	owners []int
	rows   [][]row.Row
}

// newGame returns the game of a valid model with a factor.
func newGame(m api.Model, factor api.Num) game {
	var g game
	for _, state := range m.States {
		rows := make([]row.Row, len(state.Choices))
		for i, c := range state.Choices {
			rows[i] = row.Of(c, exact.Of(c.Reward), exact.Of(factor))
		}
		g.owners = append(g.owners, state.Owner)
		g.rows = append(g.rows, rows)
	}
	return g
}

// prefers reports whether, for the player of a state, the result of a comparison speaks for the first of two
// numbers.
func (g game) prefers(state, sign int) bool {
	return prefers(g.owners[state], sign)
}

// worth returns the expected worth from each state in the chain fixed by s.
func (g game) worth(s []int) []exact.Rat {
	x := make([]exact.Rat, len(s))
	var states []int
	var rows []row.Row
	for state, choice := range s {
		states = append(states, state)
		rows = append(rows, g.rows[state][choice])
	}
	row.Solve(x, states, rows)
	return x
}

// best returns the least choice of a state whose yield is the best one for the numbers x, and that yield; as in
// row.At, x contains the numbers multiplied by scale, and so is the yield.
func (g game) best(state int, x []exact.Rat, scale exact.Rat) (int, exact.Rat) {
	rows := g.rows[state]
	out := len(rows) - 1
	best := rows[out].At(x, scale)
	for i, r := range slices.Backward(rows[:out]) {
		yield := r.At(x, scale)
		switch sign := yield.Cmp(best); {
		case sign == 0:
			// of equal yields, that of the least choice counts
			fallthrough
		case g.prefers(state, sign):
			out, best = i, yield
		}
	}
	return out, best
}

// solve returns the values of all states, and the optimal strategy with the least choices. Player 0 improves its
// choices as long as the best answer of player 1 leaves some improvement; the worth rises each time, so
// no choices of player 0 come up twice.
func (g game) solve() ([]exact.Rat, []int) {
	pick := make([]int, len(g.rows))
	x := g.worth(pick)
	improver := func(player int) func() bool {
		return func() bool {
			found := g.improve(player, x, pick)
			if found {
				x = g.worth(pick)
			}
			return found
		}
	}
	raise, lower := improver(0), improver(1)
	for again := true; again; again = raise() {
		for lower() {
		}
	}
	whole, scale := exact.Scaled(x)
	for s := range pick {
		pick[s], _ = g.best(s, whole, scale)
	}
	return x, pick
}

// improve changes each choice of a player in pick to a better one, if there is one, and reports whether there is.
// x contains the expected worth from each state with pick.
func (g game) improve(player int, x []exact.Rat, pick []int) bool {
	found := false
	whole, scale := exact.Scaled(x)
	for s, owner := range g.owners {
		if owner != player {
			continue
		}
		if choice, yield := g.best(s, whole, scale); prefers(player, yield.Cmp(whole[s])) {
			pick[s] = choice
			found = true
		}
	}
	return found
}
