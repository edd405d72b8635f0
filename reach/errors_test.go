package reach

import (
	"dicebox/api"
	"dicebox/model"
	"math"
	"math/rand"
	"slices"
	"testing"
)

// notValid contains models that are not valid.
func notValid() []api.Model {
	edits := []func(m *api.Model){
		func(m *api.Model) { m.States = nil },
		func(m *api.Model) { m.States[0].Owner = 2 },
		func(m *api.Model) { m.States[0].Mark = -1 },
		func(m *api.Model) { m.States[0].Choices[0].Reward = api.Num{} },
		func(m *api.Model) { m.States[1].Choices = nil },
		func(m *api.Model) { m.States[1].Choices[0].Branches = nil },
		func(m *api.Model) { m.States[1].Choices[0].Branches[0].To = 3 },
		func(m *api.Model) { m.States[1].Choices[0].Branches[0].To = -1 },
		func(m *api.Model) { m.States[1].Choices[0].Branches[0].Chance.Low = 0 },
		func(m *api.Model) { m.States[0].Choices[0].Branches[0].Chance = ratio(1, 3) },
		func(m *api.Model) { m.States = slices.Repeat(m.States[1:2], api.MaxStates+1) },
	}
	var out []api.Model
	for _, edit := range edits {
		m := read(dice)
		edit(&m)
		out = append(out, m)
	}
	return out
}

// notSets contains lists that are no sets of states of the game of dice.
func notSets() [][]int {
	return [][]int{{3}, {-1}, {0, 0}, {1, 0}, {0, 1, 2, 3}, {math.MinInt}, {math.MaxInt}, make([]int, 1<<16)}
}

// notStrategies contains lists that are no strategies for the game of dice.
func notStrategies() [][]int {
	return [][]int{nil, {0, 0}, {0, 0, 0, 0}, {2, 0, 0}, {0, 1, 0}, {0, 0, -1}, {math.MinInt, 0, 0}, {0, 0, math.MaxInt}}
}

// checkErrors checks that all functions return ErrArg.
func checkErrors(t *testing.T, m api.Model, goal, s []int) {
	t.Helper()
	for _, max := range both() {
		if x, s, e := Best(m, goal, max); e != api.ErrArg || len(x)+len(s) != 0 {
			t.Errorf("Best: %v %v %d", x, s, e)
		}
		if p, e := Prove(m, goal, max); e != api.ErrArg || len(p.Value)+len(p.Pick)+len(p.Rank) != 0 {
			t.Errorf("Prove: %v %d", p, e)
		}
		for _, p := range []Proof{{}, {[]api.Num{ratio(1, 2), number(0), number(1)}, []int{1, 0, 0}, []int{1, 0, 0}}} {
			if is, e := Check(m, goal, max, p); e != api.ErrArg || is {
				t.Errorf("Check: %v %d", is, e)
			}
		}
		for _, n := range []int{-1, 0, 5, 1001} {
			if x, e := Within(m, goal, n, max); e != api.ErrArg || len(x) != 0 {
				t.Errorf("Within: %v %d", x, e)
			}
		}
	}
	checkStrategyErrors(t, m, goal, s)
}

// checkStrategyErrors checks that the functions with a strategy return ErrArg.
func checkStrategyErrors(t *testing.T, m api.Model, goal, s []int) {
	t.Helper()
	if x, e := Of(m, goal, s); e != api.ErrArg || len(x) != 0 {
		t.Errorf("Of: %v %d", x, e)
	}
	for _, max := range both() {
		if a, e := Regret(m, goal, s, max); e != api.ErrArg || a != (api.Num{}) {
			t.Errorf("Regret: %v %d", a, e)
		}
	}
}

// P9.1 to P9.6: what is not valid
func TestErrors(t *testing.T) {
	for _, m := range notValid() {
		for _, goal := range [][]int{nil, {0}, {-1}} {
			checkErrors(t, m, goal, make([]int, len(m.States)))
			checkErrors(t, m, goal, []int{1, 0, 0})
			checkErrors(t, m, goal, nil)
		}
	}
	m := read(dice)
	for _, goal := range notSets() {
		checkErrors(t, m, goal, []int{1, 0, 0})
		checkErrors(t, m, goal, nil)
	}
	for _, s := range notStrategies() {
		checkStrategyErrors(t, m, []int{2}, s)
		checkStrategyErrors(t, m, nil, s)
	}
}

// copyOf returns a model that shares no memory with m.
func copyOf(m api.Model) api.Model {
	out := api.Model{States: slices.Clone(m.States)}
	for i, state := range out.States {
		out.States[i].Choices = slices.Clone(state.Choices)
		for j, c := range state.Choices {
			out.States[i].Choices[j].Branches = slices.Clone(c.Branches)
		}
	}
	return out
}

// Rules 5 and 7: no call modifies its arguments, no result shares memory with them or with other results, and
// equal arguments yield equal results.
func TestEffects(t *testing.T) {
	samples(100, func(r *rand.Rand, m api.Model, goal []int, plain bool) {
		before, set := copyOf(m), slices.Clone(goal)
		for _, max := range both() {
			x, s, e := Best(m, goal, max)
			if e != api.OK {
				continue
			}
			p, _ := Prove(m, goal, max)
			wantX, wantS, wantP := slices.Clone(x), slices.Clone(s), cloneProof(p)
			y, _ := Of(m, goal, s)
			z, _ := Within(m, goal, 2, max)
			wantZ := slices.Clone(z)
			Regret(m, goal, s, max)
			Check(m, goal, max, p)
			if !slices.Equal(x, wantX) || !slices.Equal(s, wantS) || !slices.Equal(y, wantX) || !equalProofs(p, wantP) {
				t.Fatalf("%v %v %v", x, s, p)
			}
			for _, l := range [][]api.Num{x, y, z, p.Value} {
				clear(l[:cap(l)])
			}
			for i, l := range [][]int{s, p.Pick, p.Rank} {
				for j := range l[:cap(l)] {
					l[:cap(l)][j] = i + 77
				}
			}
			if slices.Contains(p.Pick, 79) || slices.Contains(s, 78) {
				t.Fatal("two lists of a result share memory")
			}
			x, s, _ = Best(m, goal, max)
			p, _ = Prove(m, goal, max)
			z, _ = Within(m, goal, 2, max)
			if !slices.Equal(x, wantX) || !slices.Equal(s, wantS) || !slices.Equal(z, wantZ) || !equalProofs(p, wantP) {
				t.Fatalf("%v %v %v %v", x, s, z, p)
			}
		}
		if !model.Identical(m, before) || !slices.Equal(goal, set) {
			t.Fatalf("%v %v", m, goal)
		}
	})
}

func equalProofs(p, q Proof) bool {
	return slices.Equal(p.Value, q.Value) && slices.Equal(p.Pick, q.Pick) && slices.Equal(p.Rank, q.Rank)
}

// TestGreatest: models with as many states, choices and branches as possible.
func TestGreatest(t *testing.T) {
	r := rand.New(rand.NewSource(1))
	n := api.MaxStates
	for range 2 {
		m := api.Model{}
		for s := range n {
			state := api.State{Choices: []api.Choice{branch(1, map[int]int{s: 1})}}
			for range api.MaxChoices {
				parts, rest := map[int]int{}, 1<<60-r.Intn(1<<59)
				low := rest
				for i, to := range append(r.Perm(n - 1)[:api.MaxBranches-1], n-1) {
					parts[to] = 1 + r.Intn(rest/4)
					if i == api.MaxBranches-1 {
						parts[to] = rest
					}
					rest -= parts[to]
				}
				state.Choices = append(state.Choices, branch(low, parts))
			}
			if s != n-1 {
				state.Choices = state.Choices[1:]
			} else {
				state.Choices = state.Choices[:1]
			}
			m.States = append(m.States, state)
		}
		for _, max := range both() {
			if _, _, e := Best(m, []int{0}, max); e != api.ErrFull && max {
				t.Errorf("%d", e)
			}
			if x, e := Within(m, []int{0}, 1, max); e != api.OK || len(x) != n {
				t.Errorf("%d", e)
			}
			if _, e := Within(m, []int{0}, 1000, max); e != api.ErrFull && max {
				t.Errorf("%d", e)
			}
			// for all but the dead end, the goal or the dead end are sure
			x, s, e := Best(m, []int{0, n - 1}, max)
			if e != api.OK || slices.ContainsFunc(x, func(a api.Num) bool { return a != number(1) }) {
				t.Errorf("%v %d", x, e)
			}
			if a, e := Regret(m, []int{0, n - 1}, s, max); e != api.OK || a != number(0) {
				t.Errorf("%v %d", a, e)
			}
			p, e := Prove(m, []int{0, n - 1}, max)
			if is, f := Check(m, []int{0, n - 1}, max, p); e != api.OK || f != api.OK || !is {
				t.Errorf("%v %d %d", is, e, f)
			}
		}
	}
}
