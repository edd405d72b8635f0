package sure

import (
	"dicebox/api"
	"slices"
)

// set tells of each state whether it belongs to it.
type set [api.MaxStates]bool

// setOf returns the set of the states of a list.
func setOf(l []int) set {
	var out set
	for _, s := range l {
		out[s] = true
	}
	return out
}

// list returns the states of x in order.
func (x set) list() []int {
	var out []int
	for s, is := range x {
		if is {
			out = append(out, s)
		}
	}
	return out
}

// fixed repeats a step, from x on, until it does not change the set any more.
func fixed(step func(set) set, x set) set {
	for {
		next := step(x)
		if next == x {
			return x
		}
		x = next
	}
}

// game is a model with a goal, as one player sees it.
type game struct {
	states []api.State
	goal   set
	player int
	inside set   // the states that the player is not willing to leave on the way to the goal
	pick   []int // the choices of the player; those of the last round count
}

// newGame returns the game of a valid model and a valid set.
func newGame(m api.Model, goal []int, player int) *game {
	return &game{states: m.States, goal: setOf(goal), player: player, pick: make([]int, len(m.States))}
}

// all returns the set of all states.
func (g *game) all() set {
	var out set
	for s := range g.states {
		out[s] = true
	}
	return out
}

// outside returns the states that do not belong to the goal.
func (g *game) outside() set {
	out := g.all()
	for s := range g.states {
		out[s] = !g.goal[s]
	}
	return out
}

// forces reports whether a good choice is made in the state s if the player wants it: the player has one
// there, which becomes its pick, or the other player has no choice but good ones.
func (g *game) forces(s int, good func(api.Choice) bool) bool {
	choices := g.states[s].Choices
	if g.states[s].Owner != g.player {
		return !slices.ContainsFunc(choices, func(c api.Choice) bool { return !good(c) })
	}
	first := slices.IndexFunc(choices, good)
	if first < 0 {
		return false
	}
	g.pick[s] = first
	return true
}

// nearer adds to x the states from which the next step leads to x with a chance greater than 0, and
// never leaves the states inside.
func (g *game) nearer(x set) set {
	good := func(c api.Choice) bool { return staysIn(c, g.inside) && touches(c, x) }
	out := x
	for s := range g.states {
		if !x[s] && g.forces(s, good) {
			out[s] = true
		}
	}
	return out
}

// possible returns the states from which the goal is possible although each step leads to states of x.
func (g *game) possible(x set) set {
	g.inside = x
	return fixed(g.nearer, g.goal)
}

// kept returns the states of x from which the next step leads to states of x.
func (g *game) kept(x set) set {
	good := func(c api.Choice) bool { return staysIn(c, x) }
	var out set
	for s := range g.states {
		out[s] = x[s] && g.forces(s, good)
	}
	return out
}

// staysIn reports whether all branches of a choice lead to states of x.
func staysIn(c api.Choice, x set) bool {
	return !slices.ContainsFunc(c.Branches, func(b api.Branch) bool { return !x[b.To] })
}

// touches reports whether some branch of a choice leads to a state of x.
func touches(c api.Choice, x set) bool {
	return slices.ContainsFunc(c.Branches, func(b api.Branch) bool { return x[b.To] })
}
