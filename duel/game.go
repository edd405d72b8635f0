package duel

import (
	"dicebox/api"
	"dicebox/exact"
	"dicebox/model"
	"dicebox/policy"
	"dicebox/row"
	"dicebox/sure"
)

// player is one of the two opponents.
type player interface {
	// owner returns the Owner of the states in which the player chooses.
	owner() int
	// prefers reports whether the result of a comparison speaks for the first of two chances.
	prefers(sign int) bool
	// prepare changes the choices of the player in pick, so that improving them, one after the other, leads to
	// a best answer to those of the other player.
	prepare(g game, pick []int)
}

// raiser is player 0, who wants to reach the goal.
type raiser struct{}

func (raiser) owner() int { return 0 }

func (raiser) prefers(sign int) bool { return sign > 0 }

// prepare changes nothing: chances that no choice improves are at least the best ones.
func (raiser) prepare(game, []int) {}

// reducer is player 1, who wants to stay away from the goal.
type reducer struct{}

func (reducer) owner() int { return 1 }

func (reducer) prefers(sign int) bool { return sign < 0 }

// prepare avoids the goal where that is possible. A choice with which the goal is never reached does not look
// better than one with which it is reached later, because its mean is the chance of the latter.
func (p reducer) prepare(g game, pick []int) {
	answered, _ := model.FixFor(g.model, pick, raiser{}.owner())
	safe, choices, _ := sure.Avoid(answered, g.goal, p.owner())
	for _, s := range safe {
		if g.model.States[s].Owner == p.owner() {
			pick[s] = choices[s]
		}
	}
}

// opponent returns the opponent of player p.
func opponent(p int) player {
	if p == (raiser{}).owner() {
		return reducer{}
	}
	return raiser{}
}

// game is a valid model with a valid goal.
type game struct {
	model api.Model
	goal  []int
	means [][]row.Row // those by all choices
}

// newGame returns the game of a valid model with a valid goal.
func newGame(m api.Model, goal []int) game {
	return game{m, goal, policy.Means(m)}
}

// solve returns the values of all states, and an optimal strategy: player 0 improves its choices as long as the
// best answer leaves some improvement. If none is left, the chances are the best of their own means
// for both players.
func (g game) solve() ([]exact.Rat, []int) {
	_, pick, _ := sure.Possible(g.model, g.goal, raiser{}.owner())
	for {
		x := g.answer(reducer{}, pick)
		if !g.improve(raiser{}, x, pick) {
			return x, pick
		}
	}
}

// answer changes the choices of a player in pick to a best answer to those of the other player, and returns the
// chances of reaching the goal then.
func (g game) answer(p player, pick []int) []exact.Rat {
	p.prepare(g, pick)
	for {
		x := policy.Chances(g.model, g.goal, pick)
		if !g.improve(p, x, pick) {
			return x
		}
	}
}

// improve changes each choice of a player in pick to a better one, if there is one, and reports whether there
// is. x contains the chances of reaching the goal with pick.
func (g game) improve(p player, x []exact.Rat, pick []int) bool {
	found := false
	whole, _ := exact.Scaled(x)
	one := exact.Of(api.Num{Top: 1, Low: 1})
	for s, state := range g.model.States {
		if policy.Contains(g.goal, s) || state.Owner != p.owner() {
			continue
		}
		if choice, mean := row.Best(p.prefers, whole, one, g.means[s]...); p.prefers(mean.Cmp(whole[s])) {
			pick[s] = choice
			found = true
		}
	}
	return found
}
