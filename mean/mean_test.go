package mean

import (
	"dicebox/api"
	"dicebox/ends"
	"dicebox/model"
	"math/big"
	"math/rand"
	"slices"
	"testing"
)

// cycle is the example of the document.
const cycle = "model 2\nstate 0 0\nchoice 1: 0 1\nchoice 0: 1 1\nstate 0 0\nchoice 3: 0 1\n"

// fork is a model in which state 0 leads to one of two loops, or pays 9 once and then leads to the worse one.
const fork = "model 3\nstate 0 0\nchoice 0: 1 1/2, 2 1/2\nchoice 9: 1 1\nchoice -5: 0 1/2, 2 1/2\nstate 0 0\nchoice 1: 1 1\nstate 0 0\nchoice 4: 2 1\n"

func checkNumbers(t *testing.T, name string, got []api.Num, e api.Errno, want ...api.Num) {
	t.Helper()
	if e != api.OK || !slices.Equal(got, want) {
		t.Errorf("%s: %v %d instead of %v", name, got, e, want)
	}
}

// P13.1 to P13.6
func TestExamples(t *testing.T) {
	m := read(cycle)
	x, s, e := Best(m, true)
	checkNumbers(t, "Best", x, e, ratio(3, 2), ratio(3, 2))
	if !slices.Equal(s, []int{1, 0}) {
		t.Errorf("%v", s)
	}
	x, s, e = Best(m, false)
	checkNumbers(t, "Best", x, e, number(1), number(1))
	if !slices.Equal(s, []int{0, 0}) {
		t.Errorf("%v", s)
	}
	x, e = Of(m, []int{1, 0})
	checkNumbers(t, "Of", x, e, ratio(3, 2), ratio(3, 2))
	x, e = Ends(m, true)
	checkNumbers(t, "Ends", x, e, ratio(3, 2))
	x, e = Share(m, []int{1}, true)
	checkNumbers(t, "Share", x, e, ratio(1, 2), ratio(1, 2))
	x, e = Share(m, []int{1}, false)
	checkNumbers(t, "Share", x, e, number(0), number(0))
	for _, max := range both() {
		p, e := Prove(m, max)
		if is, f := Check(m, max, p); e != api.OK || f != api.OK || !is || !isProof(m, max, p) {
			t.Errorf("%v %d %v %d", p, e, is, f)
		}
		if is, e := Check(m, !max, p); is || e != api.OK {
			t.Errorf("%v %d", is, e)
		}
	}
}

// P13.1, P13.5: what is paid on the way does not matter, and owners do not either
func TestFork(t *testing.T) {
	m := read(fork)
	for owner := range 2 {
		m.States[0].Owner = owner
		x, s, e := Best(m, true)
		checkNumbers(t, "Best", x, e, number(4), number(1), number(4))
		if s[0] != 2 {
			t.Errorf("%v", s)
		}
		x, s, e = Best(m, false)
		checkNumbers(t, "Best", x, e, number(1), number(1), number(4))
		if s[0] != 1 {
			t.Errorf("%v", s)
		}
		for _, max := range both() {
			x, e = Ends(m, max)
			checkNumbers(t, "Ends", x, e, number(1), number(4))
		}
	}
	x, e := Of(m, []int{0, 0, 0})
	checkNumbers(t, "Of", x, e, ratio(5, 2), number(1), number(4))
	x, e = Share(m, []int{0, 1}, true)
	checkNumbers(t, "Share", x, e, number(1), number(1), number(0))
	x, e = Share(m, nil, true)
	checkNumbers(t, "Share", x, e, number(0), number(0), number(0))
	x, e = Share(m, []int{0, 1, 2}, false)
	checkNumbers(t, "Share", x, e, number(1), number(1), number(1))
}

// P13.1, P13.3, P13.4, P13.7, P13.8, P4: all strategies
func TestAllStrategies(t *testing.T) {
	full := 0
	samples(3000, func(_ *rand.Rand, m api.Model) {
		plain, _ := model.Plain(m)
		for _, max := range both() {
			want := valuesOf(m, max)
			x, s, e := Best(m, max)
			p, f := Prove(m, max)
			if !compare(t, "Best", x, e, want) {
				full++
				if plain || f != api.ErrFull || len(s)+len(p.Value)+len(p.Bias)+len(p.Pick) != 0 {
					t.Fatalf("%v: %v %v %d", m, s, p, f)
				}
				continue
			}
			for i, a := range averagesOf(m, s) {
				if a.Cmp(want[i]) != 0 {
					t.Fatalf("%v: %v attains %v instead of %v", m, s, a, want[i])
				}
			}
			if f != api.OK && (plain || f != api.ErrFull) {
				t.Fatalf("%v: %d", m, f)
			}
			if f != api.OK {
				continue
			}
			compare(t, "Prove", p.Value, f, want)
			if is, e := Check(m, max, p); !is || e != api.OK || !isProof(m, max, p) {
				t.Fatalf("%v: %v %v %d", m, p, is, e)
			}
			for i, a := range averagesOf(m, p.Pick) {
				if a.Cmp(want[i]) != 0 {
					t.Fatalf("%v: %v attains %v instead of %v", m, p.Pick, a, want[i])
				}
			}
		}
	})
	if full < 100 {
		t.Errorf("only %d values were not valid", full)
	}
}

// P13.2
func TestOf(t *testing.T) {
	valid := map[bool]int{}
	samples(1200, func(r *rand.Rand, m api.Model) {
		l := strategies(allChoices(m))
		s := l[r.Intn(len(l))]
		x, e := Of(m, s)
		fits := compare(t, "Of", x, e, averagesOf(m, s))
		valid[fits]++
		if plain, _ := model.Plain(m); plain && !fits {
			t.Fatalf("%v %v", m, s)
		}
	})
	if valid[true] < 500 || valid[false] < 50 {
		t.Errorf("%v", valid)
	}
}

// P13.5, P13.10
func TestEnds(t *testing.T) {
	several := 0
	samples(800, func(_ *rand.Rand, m api.Model) {
		components, _ := ends.Maximal(m)
		for _, max := range both() {
			values := valuesOf(m, max)
			top := values[0]
			for _, a := range values {
				if better(max, a, top) {
					top = a
				}
			}
			var want []*big.Rat
			found := false
			for _, c := range components {
				choices := allChoices(m)
				for i, s := range c.States {
					choices[s] = c.Choices[i]
				}
				for s := range choices {
					if !slices.Contains(c.States, s) {
						choices[s] = []int{0} // it does not matter
					}
				}
				inside := bestOf(m, strategies(choices), max)
				best := inside[c.States[0]]
				want = append(want, best)
				for _, s := range c.States {
					if inside[s].Cmp(best) != 0 || better(max, best, values[s]) {
						t.Fatalf("%v: %v, but the values are %v", m, best, values)
					}
				}
				found = found || best.Cmp(top) == 0
			}
			x, e := Ends(m, max)
			compare(t, "Ends", x, e, want)
			if !found {
				t.Fatalf("%v: %v, but the values are %v", m, want, values)
			}
			if len(want) > 1 {
				several++
			}
		}
	})
	if several < 200 {
		t.Errorf("%d", several)
	}
}

// P13.6
func TestShare(t *testing.T) {
	samples(800, func(r *rand.Rand, m api.Model) {
		l := r.Perm(len(m.States))[:r.Intn(len(m.States)+1)]
		slices.Sort(l)
		counting := withRewards(m, func(s int, _ api.Num) api.Num {
			if slices.Contains(l, s) {
				return number(1)
			}
			return number(0)
		})
		for _, max := range both() {
			x, e := Share(m, l, max)
			compare(t, "Share", x, e, valuesOf(counting, max))
		}
	})
}

// P13.9
func TestLinear(t *testing.T) {
	samples(400, func(r *rand.Rand, m api.Model) {
		factor, plus := 1+r.Intn(5), r.Intn(9)-4
		changes := []func(a *big.Rat) *big.Rat{
			func(a *big.Rat) *big.Rat { return new(big.Rat).Mul(a, big.NewRat(int64(factor), 7)) },
			func(a *big.Rat) *big.Rat { return new(big.Rat).Add(a, big.NewRat(int64(plus), 3)) },
			func(a *big.Rat) *big.Rat { return new(big.Rat).Neg(a) },
		}
		for _, max := range both() {
			for i, change := range changes {
				x, _, e := Best(m, max != (i == 2))
				changed := withRewards(m, func(_ int, reward api.Num) api.Num {
					out, valid := numOf(change(wideOf(reward)))
					if !valid {
						e = api.ErrFull
					}
					return out
				})
				if e != api.OK {
					continue
				}
				var want []*big.Rat
				for _, a := range x {
					want = append(want, change(wideOf(a)))
				}
				y, _, e := Best(changed, max)
				compare(t, "Best", y, e, want)
			}
		}
	})
}

// P13.1: a strategy that is better in the long run although it looks worse at first, for averages and for biases
func TestPatience(t *testing.T) {
	// a way of ten steps through losses to a loop that pays 1; each state may stay and earn nothing
	var m api.Model
	for s := range 10 {
		m.States = append(m.States, api.State{Choices: []api.Choice{leading(number(0), s), leading(number(-50), s+1)}})
	}
	m.States = append(m.States, api.State{Choices: []api.Choice{leading(number(1), 10)}})
	x, s, e := Best(m, true)
	checkNumbers(t, "Best", x, e, slices.Repeat([]api.Num{number(1)}, 11)...)
	if !slices.Equal(s, []int{1, 1, 1, 1, 1, 1, 1, 1, 1, 1, 0}) {
		t.Errorf("%v", s)
	}
	// the last state may return to the first one for 600: this is worth more than the losses on the way
	m.States[10].Choices = append(m.States[10].Choices, leading(number(600), 0))
	x, s, e = Best(m, true)
	checkNumbers(t, "Best", x, e, slices.Repeat([]api.Num{ratio(100, 11)}, 11)...)
	if s[10] != 1 {
		t.Errorf("%v", s)
	}
	x, _, e = Best(m, false)
	checkNumbers(t, "Best", x, e, slices.Repeat([]api.Num{number(0)}, 11)...)
	m.States[10].Choices[0].Reward = number(-1)
	x, _, e = Best(m, false)
	checkNumbers(t, "Best", x, e, slices.Repeat([]api.Num{number(-1)}, 11)...)
}
