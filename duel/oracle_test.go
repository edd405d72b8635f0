package duel

import (
	"dicebox/api"
	"dicebox/exact"
	"dicebox/model"
	"dicebox/policy"
	"dicebox/reach"
	"math/rand"
	"slices"
)

// read reads a model.
func read(text string) api.Model {
	m, e := model.Parse(text)
	if e != api.OK {
		panic(text)
	}
	return m
}

// ratio returns the number top / low in lowest terms.
func ratio(top, low int) api.Num {
	out, _ := exact.Ratio(exact.Whole(top), exact.Whole(low)).Num()
	return out
}

// branch returns a choice without reward; parts contains the parts of low with which it leads to each
// state.
func branch(low int, parts map[int]int) api.Choice {
	out := api.Choice{Reward: ratio(0, 1)}
	for to := range api.MaxStates {
		if part := parts[to]; part > 0 {
			out.Branches = append(out.Branches, api.Branch{To: to, Chance: ratio(part, low)})
		}
	}
	return out
}

// sampleChoice returns a choice that leads to some of the states of l, which may contain a state twice.
func sampleChoice(r *rand.Rand, l []int, low int) api.Choice {
	parts, rest := map[int]int{}, low
	count := min((r.Intn(6)+3)/2, len(l))
	for i, to := range r.Perm(len(l))[:count] {
		part := rest
		if i < count-1 {
			part = 1 + r.Intn(rest-count+i+1)
		}
		parts[l[to]] += part
		rest -= part
	}
	return branch(low, parts)
}

// sample returns a game with n states, each of them with at most a number of choices; all lower numbers of
// chances are divisors of one of lows. Most often the last state cannot be left.
func sample(r *rand.Rand, n, choices int, lows ...int) api.Model {
	var all []int
	for s := range n {
		all = append(all, s)
	}
	var out api.Model
	for s := range n {
		state := api.State{Owner: r.Intn(2), Mark: s % 64}
		for range r.Intn(choices) + 1 {
			c := sampleChoice(r, append(all, n-1), lows[r.Intn(len(lows))])
			if r.Intn(16) == 0 {
				c = branch(1, map[int]int{s: 1})
			}
			state.Choices = append(state.Choices, c)
		}
		if s == n-1 && r.Intn(4) > 0 {
			state.Choices = []api.Choice{branch(1, map[int]int{s: 1})}
		}
		out.States = append(out.States, state)
	}
	return out
}

// subset returns a set of one or two states; sometimes an empty one.
func subset(r *rand.Rand, n int) []int {
	l := r.Perm(n)[:min(r.Intn(8), n)]
	l = l[:min(len(l), 1+r.Intn(2))]
	slices.Sort(l)
	return l
}

// samples calls try with small games and goals: plain ones, and such with long numbers.
func samples(count int, try func(r *rand.Rand, m api.Model, goal []int, plain bool)) {
	r := rand.New(rand.NewSource(int64(count)))
	for i := range count {
		n := min(r.Intn(7)+1, 5)
		switch goal := subset(r, n); i % 4 {
		case 0, 1:
			try(r, sample(r, n, 3, 12), goal, true)
		case 2:
			try(r, sample(r, n, 3, 12, 7, 1000, 1<<20), goal, false)
		case 3:
			try(r, sample(r, n, 3, 1<<40-87, 1<<41-21, 1<<60-93, 1<<60-107), goal, false)
		}
	}
}

// strategies returns all strategies that differ from s only in states of a player.
func strategies(m api.Model, s []int, player int) [][]int {
	out := [][]int{nil}
	for i, state := range m.States {
		var longer [][]int
		for _, l := range out {
			for c := range state.Choices {
				if state.Owner == player || c == s[i] {
					longer = append(longer, append(slices.Clone(l), c))
				}
			}
		}
		out = longer
	}
	return out
}

// better reports whether a player prefers a to b.
func better(player int, a, b exact.Rat) bool {
	if player == 0 {
		return a.Cmp(b) > 0
	}
	return a.Cmp(b) < 0
}

// pickBest returns for each state the number of the lists that a player likes best.
func pickBest(player int, lists [][]exact.Rat) []exact.Rat {
	out := slices.Clone(lists[0])
	for _, l := range lists {
		for i, a := range l {
			if better(player, a, out[i]) {
				out[i] = a
			}
		}
	}
	return out
}

// against returns for each state what the other player attains at best against the choices of a player in s.
func against(m api.Model, goal, s []int, player int) []exact.Rat {
	var lists [][]exact.Rat
	for _, both := range strategies(m, s, 1-player) {
		lists = append(lists, policy.Chances(m, goal, both))
	}
	return pickBest(1-player, lists)
}

// values returns what a player guarantees with its best strategies.
func values(m api.Model, goal []int, player int) []exact.Rat {
	var lists [][]exact.Rat
	for _, s := range strategies(m, make([]int, len(m.States)), player) {
		lists = append(lists, against(m, goal, s, player))
	}
	return pickBest(player, lists)
}

func equal(l, m []exact.Rat) bool {
	return slices.EqualFunc(l, m, func(a, b exact.Rat) bool { return a.Cmp(b) == 0 })
}

// isProof reports whether p is a proof, by the words of the document.
func isProof(m api.Model, goal []int, p Proof) bool {
	if valid, _ := model.ValidStrategy(m, p.Pick); !valid {
		return false
	}
	for player, ranks := range [][]int{p.Low, p.High} {
		fixed := api.Model{States: slices.Clone(m.States)}
		pick := slices.Clone(p.Pick)
		for i, state := range m.States {
			if state.Owner == player {
				fixed.States[i].Choices = []api.Choice{state.Choices[pick[i]]}
				pick[i] = 0
			}
		}
		if is, _ := reach.Check(fixed, goal, player == 1, reach.Proof{Value: p.Value, Pick: pick, Rank: ranks}); !is {
			return false
		}
	}
	return true
}
