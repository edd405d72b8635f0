package mean

import (
	"dicebox/api"
	"dicebox/model"
	"math"
	"math/rand"
	"slices"
	"testing"
	"time"
)

// notValid contains models that are not valid.
func notValid() []api.Model {
	edits := []func(m *api.Model){
		func(m *api.Model) { m.States = nil },
		func(m *api.Model) { m.States[0].Owner = 2 },
		func(m *api.Model) { m.States[0].Mark = 64 },
		func(m *api.Model) { m.States[0].Choices[1].Reward = api.Num{} },
		func(m *api.Model) { m.States[0].Choices[0].Reward = api.Num{Top: 2, Low: 2} },
		func(m *api.Model) { m.States[1].Choices = nil },
		func(m *api.Model) { m.States[1].Choices = slices.Repeat(m.States[1].Choices, 9) },
		func(m *api.Model) { m.States[1].Choices[0].Branches = nil },
		func(m *api.Model) { m.States[2].Choices[0].Branches[0].To = 3 },
		func(m *api.Model) { m.States[2].Choices[0].Branches[0].To = -1 },
		func(m *api.Model) { m.States[0].Choices[0].Branches[0].Chance = ratio(1, 3) },
		func(m *api.Model) { m.States = slices.Repeat(m.States[2:], api.MaxStates+1) },
	}
	var out []api.Model
	for _, edit := range edits {
		m := read(fork)
		edit(&m)
		out = append(out, m)
	}
	return out
}

// P13.1 to P13.6: models that are not valid
func TestModels(t *testing.T) {
	for _, m := range notValid() {
		for _, max := range both() {
			good, _ := Prove(read(fork), max)
			if x, s, e := Best(m, max); e != api.ErrArg || len(x)+len(s) != 0 {
				t.Errorf("Best: %v %v %d", x, s, e)
			}
			if p, e := Prove(m, max); e != api.ErrArg || !p.isEqual(Proof{}) {
				t.Errorf("Prove: %v %d", p, e)
			}
			for _, p := range []Proof{{}, good} {
				if is, e := Check(m, max, p); e != api.ErrArg || is {
					t.Errorf("Check: %v %d", is, e)
				}
			}
			if x, e := Ends(m, max); e != api.ErrArg || len(x) != 0 {
				t.Errorf("Ends: %v %d", x, e)
			}
			for _, l := range [][]int{nil, {0}, {5}} {
				if x, e := Share(m, l, max); e != api.ErrArg || len(x) != 0 {
					t.Errorf("Share: %v %d", x, e)
				}
			}
		}
		for _, s := range [][]int{nil, {0, 0, 0}} {
			if x, e := Of(m, s); e != api.ErrArg || len(x) != 0 {
				t.Errorf("Of: %v %d", x, e)
			}
		}
	}
}

// P13.2, P13.6: strategies and sets that are not valid
func TestLists(t *testing.T) {
	m := read(fork)
	for _, s := range [][]int{nil, {0, 0}, {0, 0, 0, 0}, {3, 0, 0}, {0, 1, 0}, {0, 0, -1}, {math.MinInt, 0, 0}, {0, 0, math.MaxInt}, make([]int, 1<<16)} {
		if x, e := Of(m, s); e != api.ErrArg || len(x) != 0 {
			t.Errorf("Of: %v %d", x, e)
		}
	}
	for _, l := range [][]int{{3}, {-1}, {0, 0}, {1, 0}, {0, 1, 2, 3}, {math.MinInt}, {math.MaxInt}, make([]int, 1<<16)} {
		for _, max := range both() {
			if x, e := Share(m, l, max); e != api.ErrArg || len(x) != 0 {
				t.Errorf("Share: %v %d", x, e)
			}
		}
	}
}

// P13.1, P13.2, P13.5, P13.6: results that are not valid
func TestFull(t *testing.T) {
	// the average of two rewards that is greater than each number
	m := api.Model{States: []api.State{{Choices: []api.Choice{leading(ratio(1, api.MaxNum), 1)}}, {Choices: []api.Choice{leading(ratio(1, api.MaxNum-1), 0)}}}}
	for _, max := range both() {
		if x, s, e := Best(m, max); e != api.ErrFull || len(x)+len(s) != 0 {
			t.Errorf("%v %v %d", x, s, e)
		}
		if p, e := Prove(m, max); e != api.ErrFull || !p.isEqual(Proof{}) {
			t.Errorf("%v %d", p, e)
		}
		if x, e := Ends(m, max); e != api.ErrFull || len(x) != 0 {
			t.Errorf("%v %d", x, e)
		}
		x, e := Share(m, []int{1}, max)
		checkNumbers(t, "Share", x, e, ratio(1, 2), ratio(1, 2))
	}
	if x, e := Of(m, []int{0, 0}); e != api.ErrFull || len(x) != 0 {
		t.Errorf("%v %d", x, e)
	}
	// averages on the way are not valid, but the values are
	m.States[0].Choices = append(m.States[0].Choices, leading(number(api.MaxNum), 0))
	x, s, e := Best(m, true)
	checkNumbers(t, "Best", x, e, number(api.MaxNum), number(api.MaxNum))
	if !slices.Equal(s, []int{1, 0}) {
		t.Errorf("%v", s)
	}
	if x, s, e := Best(m, false); e != api.ErrFull || len(x)+len(s) != 0 {
		t.Errorf("%v %v %d", x, s, e)
	}
	// shares with long lower numbers
	leaving := func(from, low int) api.State {
		l := []api.Branch{{To: from, Chance: ratio(low-low/7, low)}, {To: 1 - from, Chance: ratio(low/7, low)}}
		slices.SortFunc(l, func(a, b api.Branch) int { return a.To - b.To })
		return api.State{Choices: []api.Choice{{Reward: number(0), Branches: l}}}
	}
	m = api.Model{States: []api.State{leaving(0, 1<<60-93), leaving(1, 1<<59-55)}}
	if x, e := Share(m, []int{0}, true); e != api.ErrFull || len(x) != 0 {
		t.Errorf("%v %d", x, e)
	}
}

// Rules 5 and 7: no call modifies its arguments, no result shares memory with them or with other results, and equal
// arguments yield equal results.
func TestEffects(t *testing.T) {
	samples(200, func(r *rand.Rand, m api.Model) {
		before, set := copyOf(m), []int{len(m.States) - 1}
		for _, max := range both() {
			x, s, e := Best(m, max)
			p, f := Prove(m, max)
			if e != api.OK || f != api.OK {
				continue
			}
			y, _ := Of(m, s)
			ends, _ := Ends(m, max)
			shares, _ := Share(m, set, max)
			wantS, wantP, wantEnds, wantShares := slices.Clone(s), p.clone(), slices.Clone(ends), slices.Clone(shares)
			Check(m, max, p)
			if !p.isEqual(wantP) || !slices.Equal(s, wantS) || !slices.Equal(y, x) {
				t.Fatalf("%v %v %v", p, s, y)
			}
			for _, l := range [][]api.Num{x, y, ends, shares, p.Value} {
				clear(l[:cap(l)])
			}
			for i := range s {
				s[i] = 77
			}
			if !slices.Equal(p.Bias, wantP.Bias) || !slices.Equal(p.Pick, wantP.Pick) {
				t.Fatalf("%v", p)
			}
			x, s, _ = Best(m, max)
			p, _ = Prove(m, max)
			ends, _ = Ends(m, max)
			shares, _ = Share(m, set, max)
			if !slices.Equal(x, wantP.Value) || !slices.Equal(s, wantS) || !p.isEqual(wantP) || !slices.Equal(ends, wantEnds) || !slices.Equal(shares, wantShares) {
				t.Fatalf("%v %v %v %v %v", x, s, p, ends, shares)
			}
		}
		if !model.Identical(m, before) || !slices.Equal(set, []int{len(m.States) - 1}) {
			t.Fatalf("%v %v", m, set)
		}
	})
}

// greatest returns a model with as many states and choices as possible that falls into parts of a number of states,
// which only the first ones leave. Chances are multiples of 1 / low.
func greatest(r *rand.Rand, part, low int, reward func() api.Num) api.Model {
	var m api.Model
	for s := range api.MaxStates {
		var state api.State
		for range api.MaxChoices {
			from := s / part * part
			to := r.Perm(part)[:min(part, api.MaxBranches)]
			if s < part && r.Intn(8) == 0 {
				from, to = 0, r.Perm(api.MaxStates)[:api.MaxBranches]
			}
			slices.Sort(to)
			rest := low
			c := api.Choice{Reward: reward()}
			for i, t := range to {
				chance := rest
				if i < len(to)-1 {
					chance = 1 + r.Intn(rest/4)
				}
				rest -= chance
				c.Branches = append(c.Branches, api.Branch{To: from + t, Chance: ratio(chance, low)})
			}
			state.Choices = append(state.Choices, c)
		}
		m.States = append(m.States, state)
	}
	return m
}

// TestGreatest: models with as many states, choices and branches as possible do not take long.
func TestGreatest(t *testing.T) {
	r := rand.New(rand.NewSource(1))
	for _, part := range []int{5, 8, 20, 40} {
		for _, low := range []int{1 << 10, 1<<60 - 93} {
			m := greatest(r, part, low, func() api.Num { return ratio(r.Intn(1<<60), 1+r.Intn(1<<60)) })
			same := withRewards(m, func(_ int, _ api.Num) api.Num { return ratio(7, 3) })
			start := time.Now()
			for _, max := range both() {
				if x, s, e := Best(m, max); len(x)+len(s) != 0 || e != api.ErrFull {
					t.Errorf("%v %v %d", x, s, e)
				}
				proved(t, same)
				x, e := Ends(same, max)
				checkNumbers(t, "Ends", x, e, slices.Repeat([]api.Num{ratio(7, 3)}, len(x))...)
			}
			if d := time.Since(start); d > 30*time.Second {
				t.Errorf("%d %d: %v", part, low, d)
			}
		}
	}
}
