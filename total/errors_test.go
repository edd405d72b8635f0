package total

import (
	"dicebox/api"
	"dicebox/model"
	"math"
	"math/rand"
	"slices"
	"testing"
)

// notValid contains models that are not valid. Some of them also have a reward less than 0.
func notValid() []api.Model {
	edits := []func(m *api.Model){
		func(m *api.Model) { m.States = nil },
		func(m *api.Model) { m.States[0].Owner = 2 },
		func(m *api.Model) { m.States[0].Mark = -1 },
		func(m *api.Model) { m.States[0].Choices[0].Reward = api.Num{} },
		func(m *api.Model) { m.States[0].Choices[0].Reward = api.Num{Top: -2, Low: 2} },
		func(m *api.Model) { m.States[1].Choices = nil },
		func(m *api.Model) { m.States[1].Choices[0].Branches = nil },
		func(m *api.Model) { m.States[1].Choices[0].Branches[0].To = 3 },
		func(m *api.Model) { m.States[1].Choices[0].Branches[0].To = -1 },
		func(m *api.Model) { m.States[1].Choices[0].Branches[0].Chance.Low = 0 },
		func(m *api.Model) { m.States[0].Choices[0].Branches[0].Chance = ratio(1, 3) },
		func(m *api.Model) { m.States = slices.Repeat(m.States[1:2], api.MaxStates+1) },
	}
	var out []api.Model
	for _, edit := range edits {
		for _, reward := range []int{1, -1} {
			m := read(dice)
			m.States[0].Choices[1].Reward = number(reward)
			edit(&m)
			out = append(out, m)
		}
	}
	return out
}

// notSets contains lists that are no sets of states of the game of dice.
func notSets() [][]int {
	return [][]int{{3}, {-1}, {0, 0}, {1, 0}, {0, 1, 2, 3}, {math.MinInt}, {math.MaxInt}, make([]int, 1<<16)}
}

// notStrategies contains lists that are no strategies for the game of dice.
func notStrategies() [][]int {
	return [][]int{nil, {0, 0}, {0, 0, 0, 0}, {2, 0, 0}, {0, 1, 0}, {0, 0, -1}, {math.MinInt, 0, 0}, {0, 0, math.MaxInt}}
}

// checkErrors checks that all functions return this error.
func checkErrors(t *testing.T, m api.Model, goal, s []int, want api.Errno) {
	t.Helper()
	for _, max := range both() {
		if x, s, e := Best(m, goal, max); e != want || len(x)+len(s) != 0 {
			t.Errorf("Best: %v %v %d", x, s, e)
		}
		if p, e := Prove(m, goal, max); e != want || len(p.Value)+len(p.Pick)+len(p.Rank) != 0 {
			t.Errorf("Prove: %v %d", p, e)
		}
		good, _ := Prove(read(dice), []int{1, 2}, max)
		for _, p := range []Proof{{}, good} {
			if is, e := Check(m, goal, max, p); e != want || is {
				t.Errorf("Check: %v %d", is, e)
			}
		}
		for _, n := range []int{-1, 0, 5, 1001} {
			if x, e := Steps(m, goal, n, max); e != want || len(x) != 0 {
				t.Errorf("Steps: %v %d", x, e)
			}
			if x, e := Budget(m, goal, n, max); e != want || len(x) != 0 {
				t.Errorf("Budget: %v %d", x, e)
			}
		}
	}
	if x, e := Of(m, goal, s); e != want || len(x) != 0 {
		t.Errorf("Of: %v %d", x, e)
	}
}

// P12.1 to P12.6: what is not valid, and then rewards less than 0
func TestErrors(t *testing.T) {
	for _, m := range notValid() {
		for _, goal := range [][]int{nil, {0}, {-1}} {
			checkErrors(t, m, goal, []int{1, 0, 0}, api.ErrArg)
			checkErrors(t, m, goal, nil, api.ErrArg)
		}
	}
	for _, reward := range []api.Num{number(1), number(-1), ratio(-1, api.MaxNum), ratio(1, 2)} {
		m := read(dice)
		m.States[2].Choices[0].Reward = reward
		for _, goal := range notSets() {
			checkErrors(t, m, goal, []int{1, 0, 0}, api.ErrArg)
			checkErrors(t, m, goal, nil, api.ErrArg)
		}
		for _, s := range notStrategies() {
			for _, goal := range [][]int{nil, {2}, {0, 1, 2}} {
				if x, e := Of(m, goal, s); e != api.ErrArg || len(x) != 0 {
					t.Errorf("Of: %v %d", x, e)
				}
			}
		}
		if reward.Top >= 0 {
			continue
		}
		// rewards of the goal count as well
		for _, goal := range [][]int{nil, {2}, {0, 1, 2}} {
			checkErrors(t, m, goal, []int{1, 0, 0}, api.ErrKind)
		}
	}
}

// P12.5 and P12.6: numbers out of their range, after ErrKind
func TestRanges(t *testing.T) {
	m := read(dice)
	for _, max := range both() {
		for _, n := range []int{-1, math.MinInt, 1001, math.MaxInt} {
			if x, e := Steps(m, []int{2}, n, max); e != api.ErrRange || len(x) != 0 {
				t.Errorf("Steps: %v %d", x, e)
			}
		}
		for _, b := range []int{-1, math.MinInt, 201, math.MaxInt} {
			if x, e := Budget(m, []int{2}, b, max); e != api.ErrRange || len(x) != 0 {
				t.Errorf("Budget: %v %d", x, e)
			}
		}
	}
	for s := range m.States {
		m := read(dice)
		m.States[s].Choices[0].Reward = ratio(1, 2)
		for _, b := range []int{-1, 0, 200, 201} {
			if x, e := Budget(m, []int{2}, b, true); e != api.ErrKind || len(x) != 0 {
				t.Errorf("Budget: %v %d", x, e)
			}
		}
		if x, e := Steps(m, []int{2}, 1, true); e != api.OK || len(x) != 3 {
			t.Errorf("Steps: %v %d", x, e)
		}
	}
}

// Rules 5 and 7: no call modifies its arguments, no result shares memory with them or with other results, and
// equal arguments yield equal results.
func TestEffects(t *testing.T) {
	samples(150, func(r *rand.Rand, m api.Model, goal []int) {
		before, set := copyOf(m), slices.Clone(goal)
		for _, max := range both() {
			x, s, e := Best(m, goal, max)
			if e != api.OK {
				continue
			}
			p, _ := Prove(m, goal, max)
			wantX, wantS, wantP := slices.Clone(x), slices.Clone(s), cloneProof(p)
			y, _ := Of(m, goal, s)
			v, _ := Steps(m, goal, 2, max)
			w, _ := Budget(m, goal, 2, max)
			wantV, wantW := slices.Clone(v), slices.Clone(w)
			Check(m, goal, max, p)
			if !slices.Equal(x, wantX) || !slices.Equal(s, wantS) || !slices.Equal(y, wantX) || !equalProofs(p, wantP) {
				t.Fatalf("%v %v %v", x, s, p)
			}
			clear(x[:cap(x)])
			clear(y[:cap(y)])
			clear(p.Value[:cap(p.Value)])
			clear(v[:cap(v)])
			clear(w[:cap(w)])
			for i, l := range [][]int{s, p.Pick, p.Rank} {
				for j := range l[:cap(l)] {
					l[:cap(l)][j] = i + 77
				}
			}
			if slices.Contains(p.Pick, 79) || slices.Contains(s, 78) {
				t.Fatal("two lists of a result share memory")
			}
			x, s, _ = Best(m, goal, max)
			p, _ = Prove(m, goal, max)
			v, _ = Steps(m, goal, 2, max)
			w, _ = Budget(m, goal, 2, max)
			if !slices.Equal(x, wantX) || !slices.Equal(s, wantS) || !slices.Equal(v, wantV) || !slices.Equal(w, wantW) || !equalProofs(p, wantP) {
				t.Fatalf("%v %v %v %v %v", x, s, v, w, p)
			}
		}
		if !model.Identical(m, before) || !slices.Equal(goal, set) {
			t.Fatalf("%v %v", m, goal)
		}
	})
}

// greatest returns a model with as many states, choices and branches as possible, whose chances are long. Each choice
// leads to the last state, which cannot be left.
func greatest(r *rand.Rand, reward func() int) api.Model {
	n := api.MaxStates
	var m api.Model
	for s := range n {
		var state api.State
		for range api.MaxChoices {
			c := api.Choice{Reward: number(reward())}
			low := 1<<60 - r.Intn(1<<59)
			rest := low
			to := append(r.Perm(n - 1)[:api.MaxBranches-1], n-1)
			slices.Sort(to)
			for i, t := range to {
				part := rest
				if i < len(to)-1 {
					part = 1 + r.Intn(rest/4)
				}
				rest -= part
				c.Branches = append(c.Branches, api.Branch{To: t, Chance: ratio(part, low)})
			}
			if s == n-1 {
				c.Branches = []api.Branch{{To: s, Chance: number(1)}}
			}
			state.Choices = append(state.Choices, c)
		}
		m.States = append(m.States, state)
	}
	return m
}

// TestGreatest: models with as many states, choices and branches as possible.
func TestGreatest(t *testing.T) {
	r := rand.New(rand.NewSource(1))
	n := api.MaxStates
	m := greatest(r, func() int { return r.Intn(3) })
	free := greatest(r, func() int { return 0 })
	for _, max := range both() {
		if x, s, e := Best(m, []int{n - 1}, max); len(x)+len(s) != 0 && e == api.ErrFull {
			t.Errorf("%v %v %d", x, s, e)
		}
		if x, e := Steps(m, []int{n - 1}, 1000, max); e == api.OK && max {
			t.Errorf("%v", x)
		}
		if x, e := Budget(m, []int{0}, 200, true); e != api.ErrFull || len(x) != 0 {
			t.Errorf("%v %d", x, e)
		}
		if x, e := Budget(m, []int{0}, 200, false); e != api.OK || x[0] != number(1) || slices.ContainsFunc(x[1:], func(a api.Num) bool { return a != number(0) }) {
			t.Errorf("%v %d", x, e)
		}
		for _, b := range []int{0, 200} {
			x, e := Budget(free, []int{n - 1}, b, max)
			if e != api.OK || slices.ContainsFunc(x, func(a api.Num) bool { return a != number(1) }) {
				t.Errorf("%v %d", x, e)
			}
		}
		x, e := Steps(free, []int{0}, 1000, max)
		if e != api.OK || slices.ContainsFunc(x, func(a api.Num) bool { return a != number(0) }) {
			t.Errorf("%v %d", x, e)
		}
		p, e := Prove(free, []int{n - 1}, max)
		if is, f := Check(free, []int{n - 1}, max, p); e != api.OK || f != api.OK || !is {
			t.Errorf("%v %d %d", is, e, f)
		}
		// nothing but infinite values
		p, e = Prove(m, []int{0}, max)
		if is, f := Check(m, []int{0}, max, p); e != api.OK || f != api.OK || !is || !p.Value[1].Inf || !p.Value[n-1].Inf {
			t.Errorf("%v %d %d", is, e, f)
		}
	}
}
