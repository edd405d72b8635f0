package policy

import (
	"dicebox/api"
	"dicebox/chain"
	"dicebox/exact"
	"dicebox/model"
	"math/rand"
	"slices"
	"testing"
)

// ratio returns the number top / low.
func ratio(top, low int) exact.Rat { return exact.Ratio(exact.Whole(top), exact.Whole(low)) }

// list returns the numbers top / 6.
func list(tops ...int) []exact.Rat {
	var out []exact.Rat
	for _, top := range tops {
		out = append(out, ratio(top, 6))
	}
	return out
}

func equal(l, m []exact.Rat) bool {
	return slices.EqualFunc(l, m, func(a, b exact.Rat) bool { return a.Cmp(b) == 0 })
}

// even returns a choice that leads to each of the states with the same chance.
func even(to ...int) api.Choice {
	out := api.Choice{Reward: api.Num{Top: 0, Low: 1}}
	for _, t := range to {
		out.Branches = append(out.Branches, api.Branch{To: t, Chance: api.Num{Top: 1, Low: len(to)}})
	}
	return out
}

func TestBest(t *testing.T) {
	x := list(1, 2, 6, -3)
	choices := []api.Choice{even(0, 1), even(2, 3), even(0, 1), even(0, 1, 2), even(3), even(0, 1, 2), even(3)}
	greater := func(sign int) bool { return sign > 0 }
	less := func(sign int) bool { return sign < 0 }
	if i, mean := Best(greater, x, choices...); i != 3 || mean.Cmp(ratio(1, 2)) != 0 {
		t.Errorf("%d %v", i, mean)
	}
	if i, mean := Best(less, x, choices...); i != 4 || mean.Cmp(ratio(-1, 2)) != 0 {
		t.Errorf("%d %v", i, mean)
	}
	if i, mean := Best(less, x, even(0), even(0)); i != 0 || mean.Cmp(ratio(1, 6)) != 0 {
		t.Errorf("%d %v", i, mean)
	}
}

func TestWhole(t *testing.T) {
	for _, pair := range [][2][]exact.Rat{{list(1, 2, -3), {ratio(1, 1), ratio(2, 1), ratio(-3, 1)}}, {list(6, 0), {ratio(1, 1), {}}}, {nil, nil}} {
		if got := Whole(pair[0]); !equal(got, pair[1]) {
			t.Errorf("%v instead of %v", got, pair[1])
		}
	}
}

func TestChances(t *testing.T) {
	r := rand.New(rand.NewSource(1))
	for range 500 {
		n := r.Intn(7) + 1
		var m api.Model
		var s []int
		for range n {
			var state api.State
			for range r.Intn(3) + 1 {
				to := r.Perm(n)[:r.Intn(min(n, 4))+1]
				slices.Sort(to)
				state.Choices = append(state.Choices, even(to...))
			}
			m.States = append(m.States, state)
			s = append(s, r.Intn(len(state.Choices)))
		}
		goal := r.Perm(n)[:r.Intn(min(n, 3)+1)]
		slices.Sort(goal)
		fixed, _ := model.Fix(m, s)
		want, e := chain.Reach(fixed, goal)
		if got := Chances(m, goal, s); e != api.OK || !equal(got, exact.List(want)) {
			t.Fatalf("%v %v %v: %v instead of %v", m, goal, s, got, want)
		}
	}
}

func TestCheck(t *testing.T) {
	m := api.Model{States: []api.State{{Choices: []api.Choice{even(0), even(1)}}, {Choices: []api.Choice{even(0, 1)}}}}
	if e := Check(m, []int{0, 1}); e != api.OK {
		t.Errorf("%d", e)
	}
	if e := Check(m, nil, []int{1, 0}, []int{0, 0}); e != api.OK {
		t.Errorf("%d", e)
	}
	if e := Check(m, []int{1, 0}); e != api.ErrArg {
		t.Errorf("%d", e)
	}
	if e := Check(m, nil, []int{1, 0}, []int{0, 1}); e != api.ErrArg {
		t.Errorf("%d", e)
	}
	m.States[1].Owner = 2
	if e := Check(m, nil); e != api.ErrArg {
		t.Errorf("%d", e)
	}
}
