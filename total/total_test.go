package total

import (
	"dicebox/api"
	"dicebox/chain"
	"dicebox/model"
	"dicebox/policy"
	"dicebox/reach"
	"dicebox/sure"
	"math/big"
	"math/rand"
	"slices"
	"testing"
)

// dice is the game of dice of the document with the reward 1 for each choice of state 0.
const dice = "model 3\nstate 0 0\nchoice 1: 1 2/3, 2 1/3\nchoice 1: 0 1/2, 1 1/4, 2 1/4\nstate 0 0\nchoice 0: 1 1\nstate 0 1\nchoice 0: 2 1\n"

// checkValues checks a result.
func checkValues(t *testing.T, name string, got []chain.Value, e api.Errno, want ...chain.Value) {
	t.Helper()
	if e != api.OK || !slices.Equal(got, want) {
		t.Errorf("%s: %v %d instead of %v", name, got, e, want)
	}
}

// checkNumbers checks a result.
func checkNumbers(t *testing.T, name string, got []api.Num, e api.Errno, want ...api.Num) {
	t.Helper()
	if e != api.OK || !slices.Equal(got, want) {
		t.Errorf("%s: %v %d instead of %v", name, got, e, want)
	}
}

// P12.1 to P12.6: the examples
func TestExamples(t *testing.T) {
	m, zero := read(dice), finite(number(0))
	for _, max := range both() {
		first, choice := finite(number(1)), 0
		if max {
			first, choice = finite(number(2)), 1
		}
		x, s, e := Best(m, []int{1, 2}, max)
		checkValues(t, "Best", x, e, first, zero, zero)
		if len(s) != 3 || s[0] != choice {
			t.Errorf("%v", s)
		}
		x, e = Of(m, []int{1, 2}, []int{choice, 0, 0})
		checkValues(t, "Of", x, e, first, zero, zero)
		p, e := Prove(m, []int{1, 2}, max)
		checkValues(t, "Prove", p.Value, e, first, zero, zero)
		if is, e := Check(m, []int{1, 2}, max, p); e != api.OK || !is {
			t.Errorf("%v: %v %d", p, is, e)
		}
		if is, e := Check(m, []int{1, 2}, !max, p); e != api.OK || is {
			t.Errorf("%v: %v %d", p, is, e)
		}
		x, _, e = Best(m, []int{2}, max)
		checkValues(t, "Best", x, e, infinite(), infinite(), zero)
		x, _, e = Best(m, nil, max)
		checkValues(t, "Best", x, e, infinite(), infinite(), infinite())
		x, _, e = Best(m, []int{0, 1, 2}, max)
		checkValues(t, "Best", x, e, zero, zero, zero)
	}
	for n, want := range []api.Num{number(0), number(1), ratio(3, 2), ratio(7, 4)} {
		x, e := Steps(m, []int{2}, n, true)
		checkNumbers(t, "Steps", x, e, want, number(0), number(0))
		x, e = Steps(m, []int{2}, n, false)
		checkNumbers(t, "Steps", x, e, number(min(n, 1)), number(0), number(0))
	}
	for b, want := range []api.Num{number(0), ratio(1, 3), ratio(5, 12), ratio(11, 24)} {
		x, e := Budget(m, []int{2}, b, true)
		checkNumbers(t, "Budget", x, e, want, number(0), number(1))
	}
	for b, want := range []api.Num{number(0), ratio(1, 4), ratio(1, 3), ratio(1, 3)} {
		x, e := Budget(m, []int{2}, b, false)
		checkNumbers(t, "Budget", x, e, want, number(0), number(1))
	}
}

// P12.1 to P12.3, P12.7, P12.8, P4: all strategies
func TestAllStrategies(t *testing.T) {
	seen := map[string]int{}
	samples(1500, func(r *rand.Rand, m api.Model, goal []int) {
		for _, max := range both() {
			want := valuesOf(m, goal, max)
			x, s, e := Best(m, goal, max)
			p, f := Prove(m, goal, max)
			if !compare(t, "Best", x, e, want) {
				seen["full"]++
				if f != api.ErrFull || len(s)+len(p.Value)+len(p.Pick)+len(p.Rank) != 0 {
					t.Fatalf("%v %v: %v %v %d", m, goal, s, p, f)
				}
				continue
			}
			for i, a := range expected(m, goal, s) {
				if better(true, a, want[i]) || better(false, a, want[i]) {
					t.Fatalf("%v %v %v: %v attains %v instead of %v", m, goal, max, s, a, want[i])
				}
				switch {
				case a == nil:
					seen["infinite"]++
				case a.Sign() > 0:
					seen["positive"]++
				}
			}
			compare(t, "Prove", p.Value, f, want)
			if is, e := Check(m, goal, max, p); !is || e != api.OK || !isProof(m, goal, max, p) {
				t.Fatalf("%v %v %v: %v %v %d", m, goal, max, p, is, e)
			}
		}
	})
	if seen["full"] < 50 || seen["infinite"] < 500 || seen["positive"] < 500 {
		t.Errorf("%v", seen)
	}
}

// P12.2 and P12.7
func TestStrategies(t *testing.T) {
	valid := map[bool]int{}
	samples(500, func(r *rand.Rand, m api.Model, goal []int) {
		most, least := valuesOf(m, goal, true), valuesOf(m, goal, false)
		for _, s := range strategies(m) {
			if r.Intn(4) > 0 {
				continue
			}
			want := expected(m, goal, s)
			for i, a := range want {
				if better(true, a, most[i]) || better(false, a, least[i]) {
					t.Fatal("the oracle is wrong")
				}
			}
			x, e := Of(m, goal, s)
			valid[compare(t, "Of", x, e, want)]++
		}
	})
	if valid[true] < 500 || valid[false] < 50 {
		t.Errorf("%v", valid)
	}
}

// P12.9: which values are finite depends on what is sure
func TestFinite(t *testing.T) {
	samples(500, func(r *rand.Rand, m api.Model, goal []int) {
		for s := range m.States {
			m.States[s].Owner = 0
		}
		surely, _, _ := sure.Sure(m, goal, 0)
		x, _, e := Best(m, goal, false)
		for s, v := range x {
			if v.Inf != !policy.Contains(surely, s) || e != api.OK {
				t.Fatalf("%v %v: %v %d", m, goal, x, e)
			}
		}
		always := slices.Repeat([]bool{true}, len(m.States))
		for _, s := range strategies(m) {
			chances, e := reach.Of(m, goal, s)
			if e != api.OK {
				return
			}
			for i, a := range chances {
				always[i] = always[i] && a == number(1)
			}
		}
		x, _, _ = Best(m, goal, true)
		for s, v := range x {
			if v.Inf == always[s] {
				t.Fatalf("%v %v: %v", m, goal, x)
			}
		}
	})
}

// P12.1: loops that cost nothing are no way to the goal, and loops that are left by chance cost nothing
func TestFreeLoops(t *testing.T) {
	m := read("model 2\nstate 0 0\nchoice 0: 0 1\nchoice 7: 1 1\nstate 0 0\nchoice 3: 1 1\n")
	x, s, e := Best(m, []int{1}, false)
	checkValues(t, "Best", x, e, finite(number(7)), finite(number(0)))
	if !slices.Equal(s, []int{1, 0}) {
		t.Errorf("%v", s)
	}
	x, s, e = Best(m, []int{1}, true)
	checkValues(t, "Best", x, e, infinite(), finite(number(0)))
	if !slices.Equal(s, []int{0, 0}) {
		t.Errorf("%v", s)
	}
	// a loop through two states, both of which can pay
	m = read("model 3\nstate 0 0\nchoice 0: 1 1\nchoice 9: 2 1\nstate 0 0\nchoice 0: 0 1\nchoice 5: 2 1\nchoice 0: 0 1/2, 1 1/2\nstate 0 0\nchoice 0: 2 1\n")
	x, s, e = Best(m, []int{2}, false)
	checkValues(t, "Best", x, e, finite(number(5)), finite(number(5)), finite(number(0)))
	if !slices.Equal(s, []int{0, 1, 0}) {
		t.Errorf("%v", s)
	}
	// trying costs nothing
	m = read("model 2\nstate 0 0\nchoice 0: 0 999/1000, 1 1/1000\nchoice 1/1000: 1 1\nstate 0 0\nchoice 3: 1 1\n")
	for _, max := range both() {
		want, choice := number(0), 0
		if max {
			want, choice = ratio(1, 1000), 1
		}
		x, s, e = Best(m, []int{1}, max)
		checkValues(t, "Best", x, e, finite(want), finite(number(0)))
		if !slices.Equal(s, []int{choice, 0}) {
			t.Errorf("%v", s)
		}
	}
}

// P12.1: owners do not matter, nor what happens in the goal
func TestIgnored(t *testing.T) {
	samples(300, func(r *rand.Rand, m api.Model, goal []int) {
		other := copyOf(m)
		for i := range other.States {
			other.States[i].Owner = 1 - other.States[i].Owner
			if policy.Contains(goal, i) {
				other.States[i] = api.State{Choices: []api.Choice{{Reward: number(5), Branches: []api.Branch{{To: r.Intn(len(m.States)), Chance: number(1)}}}}}
			}
		}
		b, n := r.Intn(4), r.Intn(4)
		for _, max := range both() {
			x, _, e := Best(m, goal, max)
			y, _, f := Best(other, goal, max)
			if e != f || !slices.Equal(x, y) {
				t.Fatalf("Best: %v %d instead of %v %d", y, f, x, e)
			}
			v, e := Steps(m, goal, n, max)
			w, f := Steps(other, goal, n, max)
			if e != f || !slices.Equal(v, w) {
				t.Fatalf("Steps: %v %d instead of %v %d", w, f, v, e)
			}
			v, e = Budget(m, goal, b, max)
			w, f = Budget(other, goal, b, max)
			if e != api.ErrKind && (e != f || !slices.Equal(v, w)) {
				t.Fatalf("Budget: %v %d instead of %v %d", w, f, v, e)
			}
		}
	})
}

// P12.5 and P12.10
func TestSteps(t *testing.T) {
	valid := map[bool]int{}
	samples(600, func(r *rand.Rand, m api.Model, goal []int) {
		n := r.Intn(r.Intn(12) + 1)
		for _, max := range both() {
			x, e := Steps(m, goal, n, max)
			want := stepsOf(m, goal, n, max)
			fits := compareNumbers(t, "Steps", x, e, want)
			valid[fits]++
			more, f := Steps(m, goal, n+1, max)
			for i := range m.States {
				if fits && f == api.OK && wideOf(more[i]).Cmp(want[i]) < 0 {
					t.Fatalf("%v after one more step than %v", more, x)
				}
			}
			values, _, f := Best(m, goal, max)
			for i, v := range values {
				if max && fits && f == api.OK && !v.Inf && wideOf(v.Num).Cmp(want[i]) < 0 {
					t.Fatalf("%v exceeds %v", x, values)
				}
			}
		}
	})
	if valid[true] < 400 || valid[false] < 100 {
		t.Errorf("%v", valid)
	}
}

// P12.5: many steps, and choices that depend on the steps that are left
func TestManySteps(t *testing.T) {
	// with one step left, waiting costs less than going
	m := read("model 3\nstate 0 0\nchoice 3: 2 1\nchoice 2: 1 1\nstate 0 0\nchoice 2: 1 1\nstate 0 0\nchoice 9: 2 1\n")
	for n, want := range []int{0, 2, 3, 3} {
		x, e := Steps(m, []int{2}, n, false)
		checkNumbers(t, "Steps", x, e, number(want), number(2*n), number(0))
	}
	for n, want := range []int{0, 3, 4, 6, 8} {
		x, e := Steps(m, []int{2}, n, true)
		checkNumbers(t, "Steps", x, e, number(want), number(2*n), number(0))
	}
	x, e := Steps(m, []int{2}, 1000, true)
	checkNumbers(t, "Steps", x, e, number(2000), number(2000), number(0))
	x, e = Steps(read(dice), []int{2}, 1000, false)
	checkNumbers(t, "Steps", x, e, number(1), number(0), number(0))
	if x, e := Steps(read(dice), []int{2}, 1000, true); e != api.ErrFull || len(x) != 0 {
		t.Errorf("%v %d", x, e)
	}
}

// P12.6 and P12.10
func TestBudget(t *testing.T) {
	valid := map[bool]int{}
	samples(900, func(r *rand.Rand, m api.Model, goal []int) {
		if !allRewards(m, func(reward api.Num) bool { return reward.Low == 1 && reward.Top < 10 }) {
			return
		}
		b := r.Intn(r.Intn(9) + 1)
		if factor := r.Intn(4) + 1; r.Intn(2) == 0 {
			m, b = copyOf(m), 2*b
			for i := range m.States {
				for j := range m.States[i].Choices {
					m.States[i].Choices[j].Reward.Top *= factor
				}
			}
		}
		for _, max := range both() {
			x, e := Budget(m, goal, b, max)
			want := budgetsOf(m, goal, b, max)
			fits := compareNumbers(t, "Budget", x, e, want)
			valid[fits]++
			more, f := Budget(m, goal, b+1, max)
			values, _, g := reach.Best(m, goal, true)
			for i := range m.States {
				if fits && f == api.OK && wideOf(more[i]).Cmp(want[i]) < 0 {
					t.Fatalf("%v with a greater budget than %v", more, x)
				}
				if fits && g == api.OK && max && wideOf(values[i]).Cmp(want[i]) < 0 {
					t.Fatalf("%v exceeds %v", x, values)
				}
			}
		}
	})
	if valid[true] < 500 || valid[false] < 10 {
		t.Errorf("%v", valid)
	}
}

// P12.6: choices that cost nothing, loops of them, and budgets that do not suffice
func TestFreeChoices(t *testing.T) {
	m := read("model 3\nstate 0 0\nchoice 0: 0 1/2, 1 1/2\nchoice 200: 2 1\nstate 0 0\nchoice 0: 0 1\nchoice 1: 0 1/2, 2 1/2\nstate 0 0\nchoice 5: 2 1\n")
	for b := range 5 {
		want := ratio(1<<b-1, 1<<b)
		x, e := Budget(m, []int{2}, b, true)
		checkNumbers(t, "Budget", x, e, want, want, number(1))
		// the loop avoids the goal for nothing
		x, e = Budget(m, []int{2}, b, false)
		checkNumbers(t, "Budget", x, e, number(0), number(0), number(1))
	}
	if x, e := Budget(m, []int{2}, 199, true); e != api.ErrFull || len(x) != 0 {
		t.Errorf("%v %d", x, e)
	}
	x, e := Budget(m, []int{2}, 200, true)
	checkNumbers(t, "Budget", x, e, number(1), number(1), number(1))
	// without the loop, whoever does not want to reach the goal pays too much
	m.States[1].Choices = m.States[1].Choices[1:]
	x, e = Budget(m, []int{2}, 10, false)
	checkNumbers(t, "Budget", x, e, number(0), ratio(1, 2), number(1))
	m.States[0].Choices = m.States[0].Choices[:1]
	x, e = Budget(m, []int{2}, 2, false)
	checkNumbers(t, "Budget", x, e, ratio(3, 4), ratio(3, 4), number(1))
	// costs near the limit of numbers
	m.States[1].Choices[0].Reward = number(api.MaxNum)
	x, e = Budget(m, []int{2}, 200, true)
	checkNumbers(t, "Budget", x, e, number(0), number(0), number(1))
	x, e = Budget(m, nil, 200, true)
	checkNumbers(t, "Budget", x, e, number(0), number(0), number(0))
}

// TestLongNumbers: the expectations on the way to the best strategy are not valid, but the values are.
func TestLongNumbers(t *testing.T) {
	const low = 1<<60 - 93
	long := []api.Branch{{To: 0, Chance: ratio(low/3, low)}, {To: 1, Chance: ratio(low-low/3, low)}}
	m := api.Model{States: []api.State{
		{Choices: []api.Choice{{Reward: ratio(1, low-2), Branches: long}, {Reward: number(9), Branches: []api.Branch{{To: 1, Chance: number(1)}}}}},
		{Choices: []api.Choice{{Reward: number(0), Branches: []api.Branch{{To: 1, Chance: number(1)}}}}},
	}}
	if !model.Valid(m) {
		t.Fatal("model")
	}
	x, s, e := Best(m, []int{1}, true)
	checkValues(t, "Best", x, e, finite(number(9)), finite(number(0)))
	if !slices.Equal(s, []int{1, 0}) {
		t.Errorf("%v", s)
	}
	if x, s, e := Best(m, []int{1}, false); e != api.ErrFull || len(x)+len(s) != 0 {
		t.Errorf("%v %v %d", x, s, e)
	}
	if x, e := Of(m, []int{1}, []int{0, 0}); e != api.ErrFull || len(x) != 0 {
		t.Errorf("%v %d", x, e)
	}
	// the greatest value, and one that is greater
	m.States[0].Choices = []api.Choice{{Reward: number(api.MaxNum / 2), Branches: []api.Branch{{To: 0, Chance: ratio(1, 2)}, {To: 1, Chance: ratio(1, 2)}}}}
	x, _, e = Best(m, []int{1}, true)
	checkValues(t, "Best", x, e, finite(number(api.MaxNum)), finite(number(0)))
	m.States[0].Choices[0].Reward = number(api.MaxNum/2 + 1)
	if x, s, e := Best(m, []int{1}, true); e != api.ErrFull || len(x)+len(s) != 0 {
		t.Errorf("%v %v %d", x, s, e)
	}
}

// TestIterator: the iterator over all choices can be left early, and skips the goal.
func TestIterator(t *testing.T) {
	g := newGame(read(dice), []int{1}, true)
	var seen [][2]int
	for s, i := range g.choices() {
		seen = append(seen, [2]int{s, i})
		if s == 2 {
			break
		}
	}
	if !slices.Equal(seen, [][2]int{{0, 0}, {0, 1}, {2, 0}}) {
		t.Errorf("%v", seen)
	}
	for s, i := range g.choices() {
		if s != 0 || i != 0 {
			t.Errorf("%d %d", s, i)
		}
		break
	}
}

// TestBigRewards: expectations are exact although rewards and chances are long.
func TestBigRewards(t *testing.T) {
	m := read("model 2\nstate 0 0\nchoice 1152921504606846976: 0 1/1152921504606846976, 1 1152921504606846975/1152921504606846976\nstate 0 0\nchoice 0: 1 1\n")
	want := new(big.Rat).Quo(big.NewRat(api.MaxNum, 1), big.NewRat(api.MaxNum-1, api.MaxNum))
	x, e := Of(m, []int{1}, []int{0, 0})
	if compare(t, "Of", x, e, []*big.Rat{want, new(big.Rat)}) {
		t.Errorf("%v", want)
	}
	m.States[0].Choices[0].Reward = ratio(api.MaxNum-1, api.MaxNum)
	x, e = Of(m, []int{1}, []int{0, 0})
	checkValues(t, "Of", x, e, finite(number(1)), finite(number(0)))
}
