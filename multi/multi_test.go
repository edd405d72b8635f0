package multi

import (
	"dicebox/api"
	"dicebox/model"
	"dicebox/reach"
	"math/big"
	"math/rand"
	"slices"
	"testing"
)

// example is the example of the document, with the goals {1} and {2}.
const example = "model 4\nstate 0 0\nchoice 0: 1 3/4, 3 1/4\nchoice 0: 2 1/2, 3 1/2\nstate 0 0\nchoice 0: 1 1\nstate 0 0\nchoice 0: 2 1\nstate 0 0\nchoice 0: 3 1\n"

// P14.1 to P14.6
func TestExample(t *testing.T) {
	m, goals := read(example), [][]int{{1}, {2}}
	rest := [][]api.Num{{number(1)}, {number(1)}, {number(1)}}
	half := append([][]api.Num{numbers(2, 1, 1)}, rest...)
	met, refuted := numbers(8, 3, 2), numbers(4, 2, 1)
	x, e := Of(m, goals, half)
	compare(t, "Of", x, e, wides(met))
	a, s, e := Best(m, goals, numbers(5, 2, 3))
	if a != ratio(3, 10) || len(s) != 4 || e != api.OK {
		t.Errorf("%v %v %d", a, s, e)
	}
	is, lottery, weights, e := Decide(m, goals, met)
	if !is || !slices.Equal(lottery[0], half[0]) || !isLotteryOf(m, lottery) || len(weights) != 0 || e != api.OK {
		t.Errorf("%v %v %v %d", is, lottery, weights, e)
	}
	is, lottery, weights, e = Decide(m, goals, refuted)
	if is || len(lottery) != 0 || len(weights) != 2 || e != api.OK {
		t.Errorf("%v %v %v %d", is, lottery, weights, e)
	}
	for _, c := range []struct {
		demand []api.Num
		want   bool
	}{{met, true}, {refuted, false}, {numbers(1, 0, 0), true}, {numbers(1, 1, 0), false}, {numbers(8, 3, 3), false}, {numbers(8, 4, 2), false}} {
		if is, e := Meets(m, goals, c.demand, half); is != c.want || e != api.OK {
			t.Errorf("%v: %v %d", c.demand, is, e)
		}
		if is, e := Refutes(m, goals, c.demand, numbers(5, 2, 3)); is == c.want || e != api.OK {
			t.Errorf("%v: %v %d", c.demand, is, e)
		}
		if is, e := Refutes(m, goals, c.demand, numbers(1, 0, 0)); is || e != api.OK {
			t.Errorf("%v: %v %d", c.demand, is, e)
		}
	}
	for g, want := range []api.Num{ratio(3, 8), ratio(1, 6)} {
		a, lottery, e := Most(m, goals, refuted, g)
		if a != want || !isLotteryOf(m, lottery) || e != api.OK {
			t.Errorf("%v %v %d", a, lottery, e)
		}
	}
	l, e := Corners(m, goals)
	if !slices.EqualFunc(l, [][]api.Num{{number(0), ratio(1, 2)}, {ratio(3, 4), number(0)}}, slices.Equal[[]api.Num]) || e != api.OK {
		t.Errorf("%v %d", l, e)
	}
}

// P14.1, P14.4: lotteries
func TestOf(t *testing.T) {
	valid, met := map[bool]int{}, map[bool]int{}
	samples(1200, func(r *rand.Rand, m api.Model, goals [][]int, _ bool) {
		lottery := randomLottery(r, m, []int{12, 5, 1 << 40, 1<<60 - 93}[r.Intn(4)])
		want := outcome(m, goals, lottery)
		x, e := Of(m, goals, lottery)
		fits := compare(t, "Of", x, e, want)
		valid[fits]++
		demands := [][]api.Num{randomDemand(r, len(goals), 12), numbers(1, make([]int, len(goals))...)}
		if fits {
			demands = append(demands, x)
		}
		for _, demand := range demands {
			is, e := Meets(m, goals, demand, lottery)
			met[is]++
			if is != isAtLeast(want, wides(demand)) || e != api.OK {
				t.Fatalf("%v %v %v %v: %v %d", m, goals, demand, lottery, is, e)
			}
		}
	})
	if valid[true] < 500 || valid[false] < 100 || met[true] < 1000 || met[false] < 500 {
		t.Errorf("%v %v", valid, met)
	}
}

// randomDemand returns a demand of n multiples of 1 / low, most of them small.
func randomDemand(r *rand.Rand, n, low int) []api.Num {
	out := make([]api.Num, n)
	for i := range out {
		out[i] = ratio(r.Intn(1+r.Intn(low)), low)
	}
	return out
}

// randomWeights returns n weights, some of them 0.
func randomWeights(r *rand.Rand, n int) []api.Num {
	out := make([]api.Num, n)
	for i := range out {
		out[i] = [4]api.Num{number(0), number(1 + r.Intn(3)), ratio(r.Intn(9), 1+r.Intn(9)), ratio(r.Intn(1<<60), 1+r.Intn(1<<60))}[r.Intn(4)]
	}
	return out
}

// P14.2, P14.4, P14.8: all strategies
func TestBest(t *testing.T) {
	valid, refuted := map[bool]int{}, map[bool]int{}
	samples(1200, func(r *rand.Rand, m api.Model, goals [][]int, _ bool) {
		l := outcomes(m, goals)
		for range 3 {
			weights := randomWeights(r, len(goals))
			want := greatestWorth(wides(weights), l)
			a, s, e := Best(m, goals, weights)
			if number, fits := numOf(want); !fits {
				valid[false]++
				if e != api.ErrFull || a != (api.Num{}) || len(s) != 0 {
					t.Fatalf("%v %v %v: %v %v %d", m, goals, weights, a, s, e)
				}
			} else {
				valid[true]++
				isStrategy, _ := model.ValidStrategy(m, s)
				if e != api.OK || a != number || !isStrategy || worth(wides(weights), outcome(m, goals, pure(m, s))).Cmp(want) != 0 {
					t.Fatalf("%v %v %v: %v %v %d instead of %v", m, goals, weights, a, s, e, number)
				}
			}
			demands := [][]api.Num{randomDemand(r, len(goals), 12)}
			// an outcome is worth no less than itself
			for _, x := range l {
				if x, e := Of(m, goals, randomLottery(r, m, 5)); e == api.OK {
					demands = append(demands, x)
				}
				if a, fits := numOf(x[0]); fits && len(goals) == 1 {
					demands = append(demands, []api.Num{a})
				}
			}
			for _, demand := range demands {
				is, e := Refutes(m, goals, demand, weights)
				refuted[is]++
				if is != (want.Cmp(worth(wides(weights), wides(demand))) < 0) || e != api.OK {
					t.Fatalf("%v %v %v %v: %v %d", m, goals, demand, weights, is, e)
				}
			}
		}
	})
	if valid[true] < 1000 || valid[false] < 100 || refuted[true] < 500 || refuted[false] < 1000 {
		t.Errorf("%v %v", valid, refuted)
	}
}

// P14.8: one goal alone
func TestSingle(t *testing.T) {
	samples(600, func(_ *rand.Rand, m api.Model, goals [][]int, _ bool) {
		for g, goal := range goals {
			weights := numbers(1, make([]int, len(goals))...)
			weights[g] = number(1)
			var others []int
			for i, l := range goals {
				if i != g {
					others = append(others, l...)
				}
			}
			slices.Sort(others)
			stopped, _ := model.Goal(m, others)
			x, _, f := reach.Best(stopped, goal, true)
			a, _, e := Best(m, goals, weights)
			if f == api.OK && (a != x[0] || e != api.OK) {
				t.Fatalf("%v %v: %v %d instead of %v", m, goals, a, e, x[0])
			}
		}
	})
}

// isDecided checks a decision by its lottery or weights, and reports whether there is one.
func isDecided(t *testing.T, m api.Model, goals [][]int, demand []api.Num, l [][]*big.Rat) (bool, bool) {
	t.Helper()
	is, lottery, weights, e := Decide(m, goals, demand)
	switch {
	case e == api.ErrFull && !is && len(lottery)+len(weights) == 0:
		return false, false
	case e != api.OK:
		t.Fatalf("%v %v %v: %v %v %v %d", m, goals, demand, is, lottery, weights, e)
	case is:
		if len(weights) != 0 || !isLotteryOf(m, lottery) || !isAtLeast(outcome(m, goals, lottery), wides(demand)) {
			t.Fatalf("%v %v %v: %v %v", m, goals, demand, lottery, weights)
		}
	default:
		sum := new(big.Rat)
		for _, a := range weights {
			if !isNumber(a) || a.Top < 0 {
				t.Fatalf("%v %v %v: %v", m, goals, demand, weights)
			}
			sum.Add(sum, wideOf(a))
		}
		wide := wides(weights)
		if len(lottery) != 0 || len(weights) != len(goals) || sum.Cmp(big.NewRat(1, 1)) != 0 || greatestWorth(wide, l).Cmp(worth(wide, wides(demand))) >= 0 {
			t.Fatalf("%v %v %v: %v %v", m, goals, demand, lottery, weights)
		}
	}
	return is, true
}

// P14.3, P14.7, P7: each decision is proved by all strategies
func TestDecide(t *testing.T) {
	counts := map[bool]int{}
	full := 0
	samples(1200, func(r *rand.Rand, m api.Model, goals [][]int, plain bool) {
		l := outcomes(m, goals)
		for i := range 6 {
			low := 12
			if i%3 == 2 && !plain {
				low = 1<<60 - 93
			}
			demand := randomDemand(r, len(goals), low)
			if i == 0 {
				demand = halfway(r, l, demand)
			}
			is, decided := isDecided(t, m, goals, demand, l)
			if !decided {
				full++
				if plain && i > 0 {
					t.Fatalf("%v %v %v: ErrFull", m, goals, demand)
				}
				continue
			}
			counts[is]++
			met, _ := Meets(m, goals, demand, randomLottery(r, m, 12))
			refuted, _ := Refutes(m, goals, demand, randomWeights(r, len(goals)))
			if is && refuted || !is && met {
				t.Fatalf("%v %v %v: %v, but Meets is %v and Refutes %v", m, goals, demand, is, met, refuted)
			}
		}
	})
	if counts[true] < 2000 || counts[false] < 2000 || full > 300 {
		t.Errorf("%v, %d results were not valid", counts, full)
	}
}

// halfway returns the mean of two outcomes if it is valid, otherwise other.
func halfway(r *rand.Rand, l [][]*big.Rat, other []api.Num) []api.Num {
	x, y := l[r.Intn(len(l))], l[r.Intn(len(l))]
	var out []api.Num
	for i, a := range x {
		mean := new(big.Rat).Add(a, y[i])
		number, valid := numOf(mean.Quo(mean, big.NewRat(2, 1)))
		if !valid {
			return other
		}
		out = append(out, number)
	}
	return out
}

// P14.5
func TestMost(t *testing.T) {
	counts := map[api.Errno]int{}
	samples(1200, func(r *rand.Rand, m api.Model, goals [][]int, plain bool) {
		l := outcomes(m, goals)
		for range 4 {
			demand := randomDemand(r, len(goals), 12)
			g := r.Intn(len(goals))
			a, lottery, e := Most(m, goals, demand, g)
			counts[e]++
			if e != api.OK && (a != api.Num{} || len(lottery) != 0) || e == api.ErrFull && plain {
				t.Fatalf("%v %v %v %d: %v %v %d", m, goals, demand, g, a, lottery, e)
			}
			if len(goals) == 2 {
				checkMost(t, m, l, demand, g, a, e)
			}
			demand[g] = number(0)
			if met, decided := isDecided(t, m, goals, demand, l); decided && met == (e == api.ErrNone) {
				t.Fatalf("%v %v %v %d: %d", m, goals, demand, g, e)
			}
			if e != api.OK {
				continue
			}
			x := outcome(m, goals, lottery)
			if !isLotteryOf(m, lottery) || x[g].Cmp(wideOf(a)) != 0 || !isAtLeast(x, wides(demand)) {
				t.Fatalf("%v %v %v %d: %v %v", m, goals, demand, g, a, lottery)
			}
			// a demand of a little more is not met
			more := new(big.Rat).Add(wideOf(a), big.NewRat(1, 1<<20))
			if number, valid := numOf(more); valid && number.Top <= number.Low {
				demand[g] = number
				if met, _ := isDecided(t, m, goals, demand, l); met {
					t.Fatalf("%v %v %v %d: only %v", m, goals, demand, g, a)
				}
			}
		}
	})
	if counts[api.OK] < 1000 || counts[api.ErrNone] < 1000 || counts[api.ErrFull] > 500 || len(counts) != 3 {
		t.Errorf("%v", counts)
	}
}

// checkMost checks the result of Most for two goals by all outcomes.
func checkMost(t *testing.T, m api.Model, l [][]*big.Rat, demand []api.Num, g int, a api.Num, e api.Errno) {
	t.Helper()
	most := mostOf(l, g, wideOf(demand[1-g]))
	switch {
	case most == nil:
		if e != api.ErrNone {
			t.Fatalf("%v %v %d: %v %d", m, demand, g, a, e)
		}
	case e != api.ErrFull:
		if number, valid := numOf(most); !valid || number != a || e != api.OK {
			t.Fatalf("%v %v %d: %v %d instead of %v", m, demand, g, a, e, most)
		}
	}
}

// P14.6, P14.9
func TestCorners(t *testing.T) {
	counts := map[int]int{}
	samples(1400, func(r *rand.Rand, m api.Model, goals [][]int, _ bool) {
		if len(goals) == 2 {
			counts[checkCorners(t, r, m, goals)]++
			m, goals = trade(r, 1+r.Intn(3), []int{12, 12, 100, 1<<58 - 27}[r.Intn(4)])
			counts[checkCorners(t, r, m, goals)]++
			return
		}
		if l, e := Corners(m, goals); e != api.ErrKind || len(l) != 0 {
			t.Fatalf("%v %v: %v %d", m, goals, l, e)
		}
	})
	if counts[0] < 50 || counts[1] < 200 || counts[2] < 300 || counts[3] < 100 || counts[4] < 30 {
		t.Errorf("%v", counts)
	}
}

// checkCorners checks the corners for two goals by all strategies, and returns their number; 0 if they are not
// valid.
func checkCorners(t *testing.T, r *rand.Rand, m api.Model, goals [][]int) int {
	t.Helper()
	all := outcomes(m, goals)
	want := cornersOf(all)
	l, e := Corners(m, goals)
	if slices.ContainsFunc(want, func(x []*big.Rat) bool { return len(validNumbers(x)) == 0 }) {
		if e != api.ErrFull || len(l) != 0 {
			t.Fatalf("%v %v: %v %d instead of ErrFull", m, goals, l, e)
		}
		return 0
	}
	if e != api.OK || len(l) != len(want) {
		t.Fatalf("%v %v: %v %d instead of %v", m, goals, l, e, want)
	}
	for i, x := range l {
		compare(t, "Corners", x, e, want[i])
	}
	demand := randomDemand(r, 2, 12)
	met, decided := isDecided(t, m, goals, demand, all)
	if most := mostOf(want, 1, wideOf(demand[0])); decided && met != (most != nil && most.Cmp(wideOf(demand[1])) >= 0) {
		t.Fatalf("%v %v %v: %v, but %v", m, goals, demand, met, l)
	}
	return len(l)
}

// validNumbers returns valid numbers, nil if there are none.
func validNumbers(l []*big.Rat) []api.Num {
	var out []api.Num
	for _, a := range l {
		number, valid := numOf(a)
		if !valid {
			return nil
		}
		out = append(out, number)
	}
	return out
}
