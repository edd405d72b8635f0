package ends

import (
	"dicebox/api"
	"dicebox/model"
	"math/rand"
	"slices"
	"testing"
)

// checkMerge checks the result of Merge.
func checkMerge(t *testing.T, m, want api.Model, numbers ...int) {
	t.Helper()
	got, number, e := Merge(m)
	if e != api.OK || !model.Identical(got, want) || !slices.Equal(number, numbers) || !model.Valid(got) {
		t.Fatalf("%v: %v %v %d instead of %v %v", m, got, number, e, want, numbers)
	}
}

// checkFull checks that Merge returns ErrFull.
func checkFull(t *testing.T, m api.Model) {
	t.Helper()
	if got, number, e := Merge(m); !model.Valid(m) || e != api.ErrFull || got.States != nil || len(number) != 0 {
		t.Fatalf("%v: %v %v %d instead of ErrFull", m, got, number, e)
	}
}

// P8.5: some end components
func TestMergeExamples(t *testing.T) {
	checkMerge(t, read(dice), read(dice), 0, 1, 2)
	half, third := api.Num{Top: 1, Low: 2}, api.Num{Top: 1, Low: 3}
	choices := []api.Choice{
		{Reward: api.Num{Top: 3, Low: 1}, Branches: []api.Branch{{To: 0, Chance: half}, {To: 1, Chance: half}}},
		{Reward: api.Num{Top: 4, Low: 1}, Branches: []api.Branch{{To: 0, Chance: third}, {To: 1, Chance: third}, {To: 2, Chance: third}}},
		{Reward: api.Num{Top: 6, Low: 1}, Branches: []api.Branch{{To: 0, Chance: api.Num{Top: 1, Low: 1}}}},
	}
	checkMerge(t, rooms(), api.Model{States: []api.State{
		{Choices: []api.Choice{choice(1, 1, 2)}},
		{Owner: 1, Mark: 5, Choices: choices},
		{Choices: []api.Choice{choice(0, 2)}},
	}}, 0, 1, 2, 1, 1)
	// both branches of state 0 lead to the same end component; equal choices are kept
	m := read("model 4\nstate 0 3\nchoice 1/2: 1 1/6, 2 1/2, 3 1/3\nchoice 1/2: 1 1/6, 2 1/2, 3 1/3\nstate 1 0\nchoice 5: 3 1\nstate 0 0\nchoice 5: 2 1\nstate 0 4\nchoice 7: 1 1\n")
	c := api.Choice{Reward: half, Branches: []api.Branch{{To: 1, Chance: half}, {To: 2, Chance: half}}}
	checkMerge(t, m, api.Model{States: []api.State{
		{Mark: 3, Choices: []api.Choice{c, c}},
		{Owner: 1, Choices: []api.Choice{choice(0, 1)}},
		{Choices: []api.Choice{choice(0, 2)}},
	}}, 0, 1, 2, 1)
}

// P8.5 and P8.8
func TestMerge(t *testing.T) {
	full, smaller := 0, 0
	models(func(r *rand.Rand, m api.Model) {
		l, _ := Maximal(m)
		want, number, valid := merged(m, l)
		if !valid {
			checkFull(t, m)
			full++
			return
		}
		checkMerge(t, m, want, number...)
		ends, e := Maximal(want)
		if e != api.OK {
			t.Fatalf("%v: %d", want, e)
		}
		for _, end := range ends {
			s := end.States[0]
			if len(end.States) > 1 || len(want.States[s].Choices) > 1 || !slices.Equal(end.Choices[0], []int{0}) {
				t.Fatalf("%v: %v", want, end)
			}
		}
		checkMerge(t, want, withoutRewards(want, ends), numbers(len(want.States))...)
		if len(want.States) < len(m.States) {
			smaller++
		}
	})
	if full < 10 || smaller < 100 {
		t.Errorf("%d %d", full, smaller)
	}
}

// withoutRewards returns a merged model in which the end components pay nothing.
func withoutRewards(m api.Model, l []End) api.Model {
	for _, e := range l {
		m.States[e.States[0]].Choices = []api.Choice{choice(0, e.States[0])}
	}
	return m
}

// leaving returns a model in which the states 0 and 1 form an end component with a number of other
// choices, all of which lead to state 2.
func leaving(count int) api.Model {
	m := api.Model{States: []api.State{{Choices: []api.Choice{choice(0, 1)}}, {Choices: []api.Choice{choice(0, 0)}}, {Choices: []api.Choice{choice(0, 2)}}}}
	for i := range count {
		s := &m.States[i%2]
		s.Choices = append(s.Choices, choice(i, 2))
	}
	return m
}

// P8.5: the limits of choices and chances
func TestMergeFull(t *testing.T) {
	var most api.State
	for i := range 8 {
		most.Choices = append(most.Choices, choice(i/4+i%4*2, 1)) // first those of state 0
	}
	got, _, e := Merge(leaving(8))
	if e != api.OK || !model.Identical(got, api.Model{States: []api.State{most, {Choices: []api.Choice{choice(0, 1)}}}}) {
		t.Errorf("%v %d", got, e)
	}
	checkFull(t, leaving(9))
	checkFull(t, leaving(14))
}

// long returns a model whose state 0 leads to the states 1 to 4 with the chances 1/p, 1/q, 1/2 - 1/p and
// 1/2 - 1/q, where the first two, as well as the last two, have no valid sum. The state 1 and another
// one form an end component.
func long(other int) api.Model {
	p, q := 1<<31, 1<<31-1
	first := api.Choice{Reward: api.Num{Top: 0, Low: 1}, Branches: []api.Branch{
		{To: 1, Chance: api.Num{Top: 1, Low: p}},
		{To: 2, Chance: api.Num{Top: 1, Low: q}},
		{To: 3, Chance: api.Num{Top: p/2 - 1, Low: p}},
		{To: 4, Chance: api.Num{Top: q - 2, Low: 2 * q}},
	}}
	m := api.Model{States: []api.State{{Choices: []api.Choice{first}}}}
	for s := 1; s < 5; s++ {
		m.States = append(m.States, api.State{Choices: []api.Choice{choice(0, s)}})
	}
	m.States[1].Choices[0] = choice(0, other)
	m.States[other].Choices[0] = choice(0, 1)
	return m
}

// P8.5: chances that are not valid
func TestMergeLong(t *testing.T) {
	checkFull(t, long(2))
	checkFull(t, long(4))
	q := 1<<31 - 1
	got, number, e := Merge(long(3))
	want := []api.Branch{{To: 1, Chance: api.Num{Top: 1, Low: 2}}, {To: 2, Chance: api.Num{Top: 1, Low: q}}, {To: 3, Chance: api.Num{Top: q - 2, Low: 2 * q}}}
	if e != api.OK || !slices.Equal(got.States[0].Choices[0].Branches, want) || !slices.Equal(number, []int{0, 1, 2, 1, 3}) {
		t.Errorf("%v %v %d", got, number, e)
	}
	// all four in one end component: the sum is 1, although sums on the way are not valid
	m := long(2)
	for s := 1; s < 5; s++ {
		m.States[s].Choices[0] = choice(0, s%4+1)
	}
	stop := api.State{Choices: []api.Choice{choice(0, 1)}}
	checkMerge(t, m, api.Model{States: []api.State{stop, stop}}, 0, 1, 1, 1, 1)
}
