package policy

import (
	"dicebox/api"
	"dicebox/chain"
	"dicebox/exact"
	"dicebox/model"
	"math/rand"
	"slices"
	"testing"
)

// ratio returns the number top / low.
func ratio(top, low int) exact.Rat { return exact.Ratio(exact.Whole(top), exact.Whole(low)) }

// list returns the numbers top / 6.
func list(tops ...int) []exact.Rat {
	var out []exact.Rat
	for _, top := range tops {
		out = append(out, ratio(top, 6))
	}
	return out
}

func equal(l, m []exact.Rat) bool {
	return slices.EqualFunc(l, m, func(a, b exact.Rat) bool { return a.Cmp(b) == 0 })
}

// even returns a choice that leads to each of the states with the same chance.
func even(to ...int) api.Choice {
	out := api.Choice{Reward: api.Num{Top: 0, Low: 1}}
	for _, t := range to {
		out.Branches = append(out.Branches, api.Branch{To: t, Chance: api.Num{Top: 1, Low: len(to)}})
	}
	return out
}

func TestMeans(t *testing.T) {
	m := api.Model{States: []api.State{{Choices: []api.Choice{even(0), even(0, 1, 2)}}, {Choices: []api.Choice{even(1, 2)}}, {Choices: []api.Choice{even(2)}}}}
	m.States[0].Choices[1].Reward = api.Num{Top: 5, Low: 1}
	want := [][]exact.Rat{list(6, 7), {ratio(5, 4)}, list(12)}
	for s, rows := range Means(m) {
		var got []exact.Rat
		for _, r := range rows {
			got = append(got, r.At(list(6, 3, 12), one()))
		}
		if !equal(got, want[s]) {
			t.Errorf("state %d: %v instead of %v", s, got, want[s])
		}
	}
}

func TestPreference(t *testing.T) {
	for sign := -1; sign <= 1; sign++ {
		if Preference(true)(sign) != (sign == 1) || Preference(false)(sign) != (sign == -1) {
			t.Errorf("%d", sign)
		}
	}
}

func TestChances(t *testing.T) {
	r := rand.New(rand.NewSource(1))
	for range 500 {
		n := r.Intn(7) + 1
		var m api.Model
		var s []int
		for range n {
			var state api.State
			for range r.Intn(3) + 1 {
				to := r.Perm(n)[:r.Intn(min(n, 4))+1]
				slices.Sort(to)
				state.Choices = append(state.Choices, even(to...))
			}
			m.States = append(m.States, state)
			s = append(s, r.Intn(len(state.Choices)))
		}
		goal := r.Perm(n)[:r.Intn(min(n, 3)+1)]
		slices.Sort(goal)
		fixed, _ := model.Fix(m, s)
		want, e := chain.Reach(fixed, goal)
		if got := Chances(m, goal, s); e != api.OK || !equal(got, exact.List(want)) {
			t.Fatalf("%v %v %v: %v instead of %v", m, goal, s, got, want)
		}
	}
}

func TestCheck(t *testing.T) {
	m := api.Model{States: []api.State{{Choices: []api.Choice{even(0), even(1)}}, {Choices: []api.Choice{even(0, 1)}}}}
	if e := Check(m, []int{0, 1}); e != api.OK {
		t.Errorf("%d", e)
	}
	if e := Check(m, nil, []int{1, 0}, []int{0, 0}); e != api.OK {
		t.Errorf("%d", e)
	}
	if e := Check(m, []int{1, 0}); e != api.ErrArg {
		t.Errorf("%d", e)
	}
	if e := Check(m, nil, []int{1, 0}, []int{0, 1}); e != api.ErrArg {
		t.Errorf("%d", e)
	}
	m.States[1].Owner = 2
	if e := Check(m, nil); e != api.ErrArg {
		t.Errorf("%d", e)
	}
}
