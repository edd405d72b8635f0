package purse

// plan contains, for each budget and state, the choices of which one is certainly the best, and the choices with which
// the search for it starts.
type plan []stage

// stage is the part of a plan for one budget. A state without options has a number that does not matter.
type stage struct {
	options [][]int
	pick    []int
}

// everything returns the plan of all choices for the budgets up to b.
func (g *game) everything(b int) plan {
	out := make(plan, b+1)
	for c := range out {
		out[c].options = make([][]int, len(g.choices))
		for s, choices := range g.choices {
			for i := range choices {
				out[c].options[s] = append(out[c].options[s], i)
			}
		}
	}
	return out
}

// prune removes the options of all numbers on which those of the last budget do not depend: long numbers with lesser
// budgets hardly ever matter for short ones.
func (g *game) prune(p plan) {
	needed := make([][]bool, len(p))
	for c := range needed {
		needed[c] = make([]bool, len(g.choices))
	}
	for s := range g.choices {
		needed[len(p)-1][s] = true
	}
	for c := len(p) - 1; c >= 0; c-- {
		for again := true; again; {
			again = false
			for s, options := range p[c].options {
				if needed[c][s] && g.require(s, c, options, needed) {
					again = true
				}
			}
		}
		for s := range g.choices {
			if !needed[c][s] {
				p[c].options[s] = nil
			}
		}
	}
}

// require adds to the needed numbers those on which the options of a state with the budget c depend, and reports whether
// there are new ones with the same budget.
func (g *game) require(s, c int, options []int, needed [][]bool) bool {
	found := false
	for _, i := range options {
		o := g.choices[s][i]
		if o.cost > c {
			continue
		}
		for _, part := range o.mean.Parts {
			found = found || o.cost == 0 && !needed[c][part.To]
			needed[c-o.cost][part.To] = true
		}
	}
	return found
}
