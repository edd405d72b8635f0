package duel

import (
	"dicebox/api"
	"dicebox/model"
	"dicebox/policy"
	"dicebox/reach"
)

// Proof proves that its numbers are the values of a model and a goal, and that its choices are an optimal
// strategy: two proofs of package reach show what the choices of each player guarantee.
type Proof struct {
	Value     []api.Num
	Pick      []int
	Low, High []int
}

// Prove returns a proof. It returns ErrArg if m or goal is not valid, and ErrFull if a value is not
// valid.
func Prove(m api.Model, goal []int) (Proof, api.Errno) {
	values, pick, e := Best(m, goal)
	if e != api.OK {
		return Proof{}, e
	}
	// the ranks for min do not depend on the choices of player 1, but those for max on all of pick
	kept, _ := model.FixFor(m, pick, 0)
	low, _ := reach.Prove(kept, goal, false)
	fixed, _ := model.Fix(m, pick)
	high, _ := reach.Prove(fixed, goal, true)
	return Proof{values, pick, low.Rank, high.Rank}, api.OK
}

// Check reports whether p is a proof. It returns ErrArg if m or goal is not valid.
func Check(m api.Model, goal []int, p Proof) (bool, api.Errno) {
	if e := policy.Check(m, goal); e != api.OK {
		return false, e
	}
	if valid, _ := model.ValidStrategy(m, p.Pick); !valid {
		return false, api.OK
	}
	return guarantees(m, goal, p, 0, p.Low) && guarantees(m, goal, p, 1, p.High), api.OK
}

// guarantees reports whether the numbers of p and these ranks are a proof of what the choices of a player
// guarantee.
func guarantees(m api.Model, goal []int, p Proof, player int, ranks []int) bool {
	kept, _ := model.FixFor(m, p.Pick, player)
	pick := make([]int, len(p.Pick))
	for s, state := range m.States {
		if state.Owner != player {
			pick[s] = p.Pick[s]
		}
	}
	// the other player makes the choices that are left
	holds, _ := reach.Check(kept, goal, player == 1, reach.Proof{Value: p.Value, Pick: pick, Rank: ranks})
	return holds
}
