package reach

import (
	"dicebox/api"
	"dicebox/model"
	"dicebox/sure"
	"math"
	"math/big"
	"math/rand"
	"slices"
	"testing"
)

// dice is the game of dice of the document.
const dice = "model 3\nstate 0 0\nchoice 0: 1 2/3, 2 1/3\nchoice 0: 0 1/2, 1 1/4, 2 1/4\nstate 0 0\nchoice 0: 1 1\nstate 0 1\nchoice 0: 2 1\n"

func both() []bool { return []bool{false, true} }

func checkNumbers(t *testing.T, name string, got []api.Num, e api.Errno, want ...api.Num) {
	t.Helper()
	if e != api.OK || !slices.Equal(got, want) {
		t.Errorf("%s: %v %d instead of %v", name, got, e, want)
	}
}

// P9.1 to P9.6
func TestExample(t *testing.T) {
	m, goal := read(dice), []int{2}
	for _, max := range both() {
		first, pick := ratio(1, 3), 0
		if max {
			first, pick = ratio(1, 2), 1
		}
		x, s, e := Best(m, goal, max)
		checkNumbers(t, "Best", x, e, first, number(0), number(1))
		if len(s) != 3 || s[0] != pick {
			t.Errorf("%v", s)
		}
		p, e := Prove(m, goal, max)
		checkNumbers(t, "Prove", p.Value, e, x...)
		if !slices.Equal(p.Pick, s) || !slices.Equal(p.Rank, []int{1, 0, 0}) {
			t.Errorf("%v", p)
		}
		if is, e := Check(m, goal, max, p); !is || e != api.OK {
			t.Errorf("%v: %v %d", p, is, e)
		}
		if is, e := Check(m, goal, !max, p); is || e != api.OK {
			t.Errorf("%v: %v %d", p, is, e)
		}
		x, e = Of(m, goal, []int{pick, 0, 0})
		checkNumbers(t, "Of", x, e, first, number(0), number(1))
		for choice := range 2 {
			want := number(0)
			if choice != pick {
				want = ratio(1, 6)
			}
			if a, e := Regret(m, goal, []int{choice, 0, 0}, max); a != want || e != api.OK {
				t.Errorf("Regret of choice %d: %v %d instead of %v", choice, a, e, want)
			}
		}
	}
	for n, want := range []api.Num{number(0), ratio(1, 3), ratio(5, 12), ratio(11, 24)} {
		x, e := Within(m, goal, n, true)
		checkNumbers(t, "Within", x, e, want, number(0), number(1))
	}
	for n, want := range []api.Num{number(0), ratio(1, 4), ratio(1, 3), ratio(1, 3)} {
		x, e := Within(m, goal, n, false)
		checkNumbers(t, "Within", x, e, want, number(0), number(1))
	}
}

// P9.1 to P9.3, P9.6 to P9.8, P4: all strategies
func TestAllStrategies(t *testing.T) {
	full := 0
	samples(1200, func(r *rand.Rand, m api.Model, goal []int, plain bool) {
		for _, max := range both() {
			want := values(m, goal, max)
			x, s, e := Best(m, goal, max)
			p, f := Prove(m, goal, max)
			if !compare(t, "Best", x, e, want) {
				full++
				if plain || f != api.ErrFull || s != nil || p.Value != nil || p.Pick != nil || p.Rank != nil {
					t.Fatalf("%v %v: %v %v %d", m, goal, s, p, f)
				}
				continue
			}
			for i, a := range chances(m, goal, s) {
				if a.Cmp(want[i]) != 0 {
					t.Fatalf("%v %v: %v attains %v instead of %v", m, goal, s, a, want[i])
				}
			}
			compare(t, "Prove", p.Value, f, want)
			if is, e := Check(m, goal, max, p); !is || e != api.OK || !isProof(m, goal, max, p) {
				t.Fatalf("%v %v: %v %v %d", m, goal, p, is, e)
			}
		}
	})
	if full < 20 {
		t.Errorf("only %d values were not valid", full)
	}
}

// P9.5 to P9.7
func TestStrategies(t *testing.T) {
	full, differences := 0, 0
	samples(400, func(r *rand.Rand, m api.Model, goal []int, plain bool) {
		for _, max := range both() {
			best := values(m, goal, max)
			for _, s := range strategies(m) {
				if r.Intn(4) > 0 {
					continue
				}
				want := chances(m, goal, s)
				regret := new(big.Rat)
				for i, a := range want {
					if better(max, a, best[i]) {
						t.Fatal("the oracle is wrong")
					}
					difference := new(big.Rat).Sub(a, best[i])
					if difference.Abs(difference).Cmp(regret) > 0 {
						regret = difference
					}
				}
				x, e := Of(m, goal, s)
				isValid := compare(t, "Of", x, e, want)
				a, e := Regret(m, goal, s, max)
				number, valid := numOf(regret)
				if valid && (a != number || e != api.OK) || !valid && (plain || e != api.ErrFull || a != api.Num{}) {
					t.Fatalf("%v %v %v: %v %d instead of %v", m, goal, s, a, e, regret)
				}
				if !isValid {
					full++
				}
				if valid && number.Top > 0 {
					differences++
				}
			}
		}
	})
	if full < 20 || differences < 100 {
		t.Errorf("%d lists were not valid, %d strategies not optimal", full, differences)
	}
}

// P9.4, P9.10
func TestWithin(t *testing.T) {
	full := 0
	samples(400, func(r *rand.Rand, m api.Model, goal []int, plain bool) {
		for _, max := range both() {
			best := values(m, goal, max)
			var before []api.Num
			for n := range 7 {
				x, e := Within(m, goal, n, max)
				if !compare(t, "Within", x, e, within(m, goal, n, max)) {
					full++
					break
				}
				for i, a := range x {
					if n > 0 && wideOf(before[i]).Cmp(wideOf(a)) > 0 || wideOf(a).Cmp(best[i]) > 0 {
						t.Fatalf("%v %v: %v after %v", m, goal, x, before)
					}
				}
				before = x
			}
			n := 20 + r.Intn(30)
			x, e := Within(m, goal, n, max)
			compare(t, "Within", x, e, within(m, goal, n, max))
		}
	})
	if full < 20 {
		t.Errorf("only %d lists were not valid", full)
	}
}

// P9.4: numbers of steps at the limits
func TestManySteps(t *testing.T) {
	m, goal := read(dice), []int{2}
	x, e := Within(m, goal, 1000, false)
	checkNumbers(t, "Within", x, e, ratio(1, 3), number(0), number(1))
	// 1/3 for the last step, and the half of all steps before
	x, e = Within(m, goal, 58, true)
	checkNumbers(t, "Within", x, e, ratio(1<<57*3-1, 1<<58*3), number(0), number(1))
	for _, n := range []int{59, 60, 100, 999, 1000} {
		if x, e := Within(m, goal, n, true); e != api.ErrFull || len(x) != 0 {
			t.Errorf("%d: %v %d", n, x, e)
		}
	}
	for _, n := range []int{-1, 1001, math.MinInt, math.MaxInt} {
		for _, max := range both() {
			if x, e := Within(m, goal, n, max); e != api.ErrRange || len(x) != 0 {
				t.Errorf("%d: %v %d", n, x, e)
			}
		}
	}
}

// P9.1: no goal, and nothing else
func TestExtremeGoals(t *testing.T) {
	m := read(dice)
	for _, max := range both() {
		for top, goal := range [][]int{nil, {0, 1, 2}} {
			want := slices.Repeat([]api.Num{number(top)}, 3)
			x, s, e := Best(m, goal, max)
			checkNumbers(t, "Best", x, e, want...)
			if valid, _ := model.ValidStrategy(m, s); !valid {
				t.Errorf("%v", s)
			}
			p, e := Prove(m, goal, max)
			checkNumbers(t, "Prove", p.Value, e, want...)
			if is, e := Check(m, goal, max, p); !is || e != api.OK || !slices.Equal(p.Rank, []int{0, 0, 0}) {
				t.Errorf("%v: %v %d", p, is, e)
			}
			x, e = Of(m, goal, []int{1, 0, 0})
			checkNumbers(t, "Of", x, e, want...)
			x, e = Within(m, goal, 9, max)
			checkNumbers(t, "Within", x, e, want...)
			if a, e := Regret(m, goal, []int{1, 0, 0}, max); a != number(0) || e != api.OK {
				t.Errorf("%v %d", a, e)
			}
		}
	}
}

// P9.1, P9.2: choices that look as good as others, but never reach the goal
func TestCycles(t *testing.T) {
	// both states may pass on to each other; state 0 may also stay, and state 1 throw for the goal
	m := read("model 4\nstate 0 0\nchoice 0: 1 1\nchoice 0: 0 1\nstate 1 0\nchoice 0: 0 1\nchoice 0: 2 1/2, 3 1/2\nstate 0 0\nchoice 0: 2 1\nstate 0 0\nchoice 0: 3 1\n")
	half := ratio(1, 2)
	x, s, e := Best(m, []int{2}, true)
	checkNumbers(t, "Best", x, e, half, half, number(1), number(0))
	if !slices.Equal(s[:2], []int{0, 1}) {
		t.Errorf("%v", s)
	}
	x, _, e = Best(m, []int{2}, false)
	checkNumbers(t, "Best", x, e, number(0), number(0), number(1), number(0))
	// the numbers 1/2 are the least means, but there is a strategy that stays away
	p := Proof{[]api.Num{half, half, number(1), number(0)}, []int{0, 1, 0, 0}, []int{2, 1, 0, 0}}
	if is, e := Check(m, []int{2}, false, p); is || e != api.OK {
		t.Errorf("%v %d", is, e)
	}
	if is, e := Check(m, []int{2}, true, p); !is || e != api.OK {
		t.Errorf("%v %d", is, e)
	}
	// with 1 each state has the mean 1 of the other one, but the goal is not reached
	p = Proof{[]api.Num{number(1), number(1), number(1), number(0)}, []int{0, 0, 0, 0}, []int{2, 1, 0, 0}}
	if is, e := Check(m, []int{2}, true, p); is || e != api.OK {
		t.Errorf("%v %d", is, e)
	}
	// a list of numbers above the values is no proof either: 2 is the mean of itself
	p = Proof{[]api.Num{number(2), number(2), number(1), number(0)}, []int{1, 0, 0, 0}, []int{1, 2, 0, 0}}
	if is, e := Check(m, []int{2}, true, p); is || e != api.OK {
		t.Errorf("%v %d", is, e)
	}
}

// P9.9, P6
func TestSure(t *testing.T) {
	r := rand.New(rand.NewSource(1))
	for range 100 {
		n := r.Intn(12) + 1
		m, goal := sample(r, n, 4, 12, 12, 1<<60), subset(r, n)
		for s := range m.States {
			m.States[s].Owner = 0
		}
		possible, _, _ := sure.Possible(m, goal, 0)
		certain, _, _ := sure.Sure(m, goal, 0)
		x, s, e := Best(m, goal, true)
		if e != api.OK {
			continue
		}
		for i, a := range x {
			if (a.Top > 0) != slices.Contains(possible, i) || (a == number(1)) != slices.Contains(certain, i) {
				t.Fatalf("%v %v: %v %v %v", m, goal, x, possible, certain)
			}
		}
		if a, e := Regret(m, goal, s, true); a != number(0) || e != api.OK {
			t.Fatalf("%v %d", a, e)
		}
	}
}

// Numbers on the way may be not valid, and numbers that do not belong to the result.
func TestLongNumbers(t *testing.T) {
	const a, b = 1<<60 - 93, 1<<60 - 107
	m := api.Model{States: []api.State{
		{Choices: []api.Choice{branch(a, map[int]int{1: a / 2, 3: a - a/2}), branch(2, map[int]int{2: 1, 3: 1})}},
		{Choices: []api.Choice{branch(b, map[int]int{2: b / 2, 3: b - b/2}), branch(1, map[int]int{3: 1})}},
		{Choices: []api.Choice{branch(1, map[int]int{2: 1})}},
		{Choices: []api.Choice{branch(1, map[int]int{3: 1})}},
	}}
	goal := []int{2}
	x, s, e := Best(m, goal, true)
	checkNumbers(t, "Best", x, e, ratio(1, 2), ratio(b/2, b), number(1), number(0))
	if s[0] != 1 {
		t.Errorf("%v", s)
	}
	x, e = Of(m, goal, []int{0, 1, 0, 0})
	checkNumbers(t, "Of", x, e, number(0), number(0), number(1), number(0))
	if x, e := Of(m, goal, []int{0, 0, 0, 0}); e != api.ErrFull || len(x) != 0 {
		t.Errorf("%v %d", x, e)
	}
	if _, e := Regret(m, goal, []int{0, 0, 0, 0}, true); e != api.ErrFull {
		t.Errorf("%d", e)
	}
	// without the second choice, the value itself is not valid
	m.States[0].Choices = m.States[0].Choices[:1]
	if _, _, e := Best(m, goal, true); e != api.ErrFull {
		t.Errorf("%d", e)
	}
	if p, e := Prove(m, goal, true); e != api.ErrFull || len(p.Value)+len(p.Pick)+len(p.Rank) != 0 {
		t.Errorf("%v %d", p, e)
	}
	if a, e := Regret(m, goal, []int{0, 0, 0, 0}, true); a != number(0) || e != api.OK {
		t.Errorf("%v %d", a, e)
	}
	x, _, e = Best(m, goal, false)
	checkNumbers(t, "Best", x, e, number(0), number(0), number(1), number(0))
	if _, e := Regret(m, goal, []int{0, 0, 0, 0}, false); e != api.OK {
		t.Errorf("%d", e) // b/2 of b, in state 1
	}
}
