package total

// rounds calls join for each state that is not in a set, again and again, until no state is added any more; join
// reports whether the state joins the set, and learns the round and the set at the start of it.
func rounds(members []bool, join func(s, round int, before func(s int) bool) bool) {
	for round, again := 1, true; again; round++ {
		again = false
		last := append([]bool(nil), members...)
		before := func(s int) bool { return last[s] }
		for s := range members {
			if !last[s] && join(s, round, before) {
				members[s], again = true, true
			}
		}
	}
}

// rankFinite gives the states with finite numbers their ranks: 1 to those that approach the goal, and in each
// further round the next rank to those that approach states that have one.
func (c claim) rankFinite() {
	members := make([]bool, len(c.proof.Rank))
	for _, s := range c.goal {
		members[s] = true
	}
	rounds(members, func(s, round int, before func(s int) bool) bool {
		if c.infinite(s) || !c.approaches(s, before) {
			return false
		}
		c.proof.Rank[s] = round
		return true
	})
}

// rankEscapes gives, for max, the states with infinite values their ranks: 0 to those from which the choices Pick
// never lead to a state with a finite number, and in each further round the next rank to those that lead to
// states that have one.
func (c claim) rankEscapes() {
	members := c.unsafe()
	for s, is := range members {
		members[s] = !is && c.infinite(s)
	}
	rounds(members, func(s, round int, before func(s int) bool) bool {
		if !c.infinite(s) || !touches(c.picked(s), before) {
			return false
		}
		c.proof.Rank[s] = round
		return true
	})
}

// unsafe returns the states from which the choices Pick may lead to a state with a finite number.
func (c claim) unsafe() []bool {
	members := make([]bool, len(c.proof.Rank))
	for s := range members {
		members[s] = !c.infinite(s)
	}
	rounds(members, func(s, _ int, before func(s int) bool) bool { return touches(c.picked(s), before) })
	return members
}

// rankTraps gives, for min, the states with infinite values their ranks: in each round to those from which the goal
// is impossible as long as no choice leads to a state that has one. Where each choice either leads
// there or stays in the round, nothing else remains.
func (c claim) rankTraps() {
	left := make([]bool, len(c.proof.Rank))
	for s := range left {
		left[s] = true
	}
	for round, again := 1, true; again; round++ {
		again = false
		hopeful := c.hopeful(left)
		for s := range left {
			if left[s] && !hopeful[s] {
				c.proof.Rank[s], again = round, true
			}
		}
		left = hopeful
	}
}

// hopeful returns the states of a set from which choices that never leave the set may lead to the goal.
func (c claim) hopeful(within []bool) []bool {
	members := make([]bool, len(within))
	for _, s := range c.goal {
		members[s] = true
	}
	rounds(members, func(s, _ int, before func(s int) bool) bool {
		if !within[s] {
			return false
		}
		for _, choice := range c.choices(s) {
			if touches(choice, before) && staysIn(choice, func(t int) bool { return within[t] }) {
				return true
			}
		}
		return false
	})
	return members
}
