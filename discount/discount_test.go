package discount

import (
	"dicebox/api"
	"dicebox/model"
	"math"
	"math/big"
	"math/rand"
	"slices"
	"testing"
)

// simple is the example of the document.
const simple = "model 1\nstate 0 0\nchoice 1: 0 1\nchoice 2: 0 1\n"

// market is a game: in state 0 player 0 pays 1 to come to state 1, where player 1 chooses what is paid back.
const market = "model 3\nstate 0 0\nchoice 0: 2 1\nchoice -1: 1 1\nstate 1 0\nchoice 5: 0 1/2, 2 1/2\nchoice 3: 0 1\nstate 0 0\nchoice 0: 2 1\n"

// P11.1: the examples
func TestExamples(t *testing.T) {
	m := read(simple)
	x, s, e := Best(m, ratio(1, 2))
	if e != api.OK || !slices.Equal(x, []api.Num{ratio(4, 1)}) || !slices.Equal(s, []int{1}) {
		t.Errorf("%v %v %d", x, s, e)
	}
	m.States[0].Owner = 1
	x, s, e = Best(m, ratio(1, 2))
	if e != api.OK || !slices.Equal(x, []api.Num{ratio(2, 1)}) || !slices.Equal(s, []int{0}) {
		t.Errorf("%v %v %d", x, s, e)
	}
	// with 3 and the way back, state 0 is worth (-1 + 3/2) / (1 - 1/4) = 2/3; with 5, (-1 + 5/2) / (1 - 1/8)
	x, s, e = Best(read(market), ratio(1, 2))
	if e != api.OK || !slices.Equal(x, []api.Num{ratio(2, 3), ratio(10, 3), ratio(0, 1)}) || !slices.Equal(s, []int{1, 1, 0}) {
		t.Errorf("%v %v %d", x, s, e)
	}
	// if the future counts little, paying is not worth it
	x, s, e = Best(read(market), ratio(1, 4))
	if e != api.OK || !slices.Equal(x, []api.Num{ratio(0, 1), ratio(3, 1), ratio(0, 1)}) || !slices.Equal(s, []int{0, 1, 0}) {
		t.Errorf("%v %v %d", x, s, e)
	}
}

// P11.1: of equal yields, that of the least choice counts, for both players
func TestTies(t *testing.T) {
	for owner := range 2 {
		m := read("model 2\nstate 0 0\nchoice 0: 0 1\nchoice 1: 1 1\nchoice 1: 1 1\nchoice 2: 0 1\nstate 0 0\nchoice 2: 1 1\n")
		m.States[0].Owner = owner
		x, s, e := Best(m, ratio(1, 2))
		want, choice := ratio(4, 1), 3
		if owner == 1 {
			want, choice = ratio(0, 1), 0
		}
		if e != api.OK || x[0] != want || !slices.Equal(s, []int{choice, 0}) {
			t.Errorf("%v %v %d", x, s, e)
		}
		m.States[0].Choices = m.States[0].Choices[1:3]
		if _, s, _ := Best(m, ratio(1, 2)); !slices.Equal(s, []int{0, 0}) {
			t.Errorf("%v", s)
		}
		// leaving and staying are equally good
		m.States[0].Choices = []api.Choice{m.States[1].Choices[0], {Reward: ratio(2, 1), Branches: []api.Branch{{To: 0, Chance: ratio(1, 1)}}}}
		if x, s, _ := Best(m, ratio(1, 2)); x[0] != ratio(4, 1) || !slices.Equal(s, []int{0, 0}) {
			t.Errorf("%v %v", x, s)
		}
		slices.Reverse(m.States[0].Choices)
		if x, s, _ := Best(m, ratio(1, 2)); x[0] != ratio(4, 1) || !slices.Equal(s, []int{0, 0}) {
			t.Errorf("%v %v", x, s)
		}
	}
}

// P11.1 and P11.3: the values are those of all strategies
func TestBest(t *testing.T) {
	valid := map[bool]int{}
	samples(800, func(r *rand.Rand, m api.Model, factor api.Num, plain bool) {
		want := valuesOf(m, factor)
		x, s, e := Best(m, factor)
		fits := compare(t, "Best", x, e, want)
		valid[fits]++
		if plain && !fits {
			t.Fatalf("plain model: %v %v", m, factor)
		}
		if !fits {
			return
		}
		for i, state := range m.States {
			if least, _ := bestYield(state, factor, want); s[i] != least {
				t.Fatalf("%v %v: %v", m, factor, s)
			}
		}
		if is, e := Check(m, factor, x); e != api.OK || !is {
			t.Fatalf("Check: %v %d", is, e)
		}
		i := r.Intn(len(x))
		for _, other := range []api.Num{ratio(x[i].Top-1, x[i].Low), ratio(x[i].Top+1, x[i].Low), ratio(0, 1), {Top: math.MaxInt, Low: 1}, {}, {Top: 2 * x[i].Top, Low: 2 * x[i].Low}} {
			y := slices.Clone(x)
			y[i] = other
			if is, e := Check(m, factor, y); e != api.OK || is != (other == x[i]) {
				t.Fatalf("Check %v: %v %d", y, is, e)
			}
		}
	})
	if valid[true] < 300 || valid[false] < 100 {
		t.Errorf("%v", valid)
	}
}

// P11.3: lists that are not the values although some yields are right
func TestCheck(t *testing.T) {
	m := read(simple)
	checks := []struct {
		v    []api.Num
		want bool
	}{
		{[]api.Num{ratio(4, 1)}, true},
		{[]api.Num{ratio(2, 1)}, false}, // that of the other choice
		{[]api.Num{ratio(3, 1)}, false},
		{[]api.Num{ratio(5, 1)}, false}, // greater than all yields
		{[]api.Num{{Top: 8, Low: 2}}, false},
		{[]api.Num{{Top: -4, Low: -1}}, false},
		{nil, false},
		{[]api.Num{ratio(4, 1), ratio(4, 1)}, false},
		{[]api.Num{ratio(4, 1), {}}, false},
		{slices.Repeat([]api.Num{ratio(4, 1)}, 1<<16), false},
	}
	for _, c := range checks {
		if is, e := Check(m, ratio(1, 2), c.v); e != api.OK || is != c.want {
			t.Errorf("%.40v: %v %d", c.v, is, e)
		}
	}
	m.States[0].Owner = 1
	for _, v := range []int{1, 2, 3, 4} {
		if is, e := Check(m, ratio(1, 2), []api.Num{ratio(v, 1)}); e != api.OK || is != (v == 2) {
			t.Errorf("%d: %v %d", v, is, e)
		}
	}
	// numbers near the limits
	m = read("model 1\nstate 0 0\nchoice 1152921504606846976: 0 1\n")
	if is, e := Check(m, ratio(api.MaxNum-1, api.MaxNum), []api.Num{ratio(api.MaxNum, 1)}); e != api.OK || is {
		t.Errorf("%v %d", is, e)
	}
	// the worth of 1 / 2^60 in each step is 1 if the factor is 1 - 1 / 2^60
	m.States[0].Choices[0].Reward = ratio(1, api.MaxNum)
	if is, e := Check(m, ratio(api.MaxNum-1, api.MaxNum), []api.Num{ratio(1, 1)}); e != api.OK || !is {
		t.Errorf("%v %d", is, e)
	}
}

// P11.2
func TestOf(t *testing.T) {
	valid := map[bool]int{}
	samples(500, func(r *rand.Rand, m api.Model, factor api.Num, plain bool) {
		all := strategies(m)
		s := all[r.Intn(len(all))]
		x, e := Of(m, factor, s)
		fits := compare(t, "Of", x, e, worths(m, factor, s))
		valid[fits]++
		if plain && !fits {
			t.Fatalf("plain model: %v %v %v", m, factor, s)
		}
	})
	if valid[true] < 200 || valid[false] < 50 {
		t.Errorf("%v", valid)
	}
}

// sampleList returns numbers for the states of m.
func sampleList(r *rand.Rand, m api.Model) []api.Num {
	var out []api.Num
	for range m.States {
		out = append(out, ratio(r.Intn(41)-20, 1+r.Intn(12)))
	}
	return out
}

func wideList(l []api.Num) []*big.Rat {
	var out []*big.Rat
	for _, a := range l {
		out = append(out, wideOf(a))
	}
	return out
}

// P11.4 and P11.6
func TestYields(t *testing.T) {
	valid := map[bool]int{}
	samples(600, func(r *rand.Rand, m api.Model, factor api.Num, plain bool) {
		v := sampleList(r, m)
		var want []*big.Rat
		greatest := new(big.Rat)
		for i, state := range m.States {
			for _, c := range state.Choices {
				want = append(want, yieldOf(c, factor, wideList(v)))
			}
			_, best := bestYield(state, factor, wideList(v))
			if d := best.Sub(best, wideOf(v[i])); d.Abs(d).Cmp(greatest) > 0 {
				greatest = d
			}
		}
		yields, e := Yields(m, factor, v)
		fits := compare(t, "Yields", slices.Concat(yields...), e, want)
		for i, l := range yields {
			if len(l) != len(m.States[i].Choices) {
				t.Fatalf("%v", yields)
			}
		}
		gap, f := Gap(m, factor, v)
		if !fits {
			if f != api.ErrFull || gap != (api.Num{}) {
				t.Fatalf("Gap: %v %d", gap, f)
			}
			valid[false]++
			return
		}
		rest := new(big.Rat).Sub(big.NewRat(1, 1), wideOf(factor))
		number, fits := numOf(greatest.Quo(greatest, rest))
		if fits && (f != api.OK || gap != number) || !fits && (f != api.ErrFull || gap != (api.Num{})) {
			t.Fatalf("Gap: %v %d instead of %v", gap, f, greatest)
		}
		valid[fits]++
	})
	if valid[true] < 100 || valid[false] < 100 {
		t.Errorf("%v", valid)
	}
}

// P11.6: the gap may be not valid although all yields are
func TestGapFull(t *testing.T) {
	m := read("model 1\nstate 0 0\nchoice 3: 0 1\n")
	if gap, e := Gap(m, ratio(api.MaxNum-1, api.MaxNum), []api.Num{ratio(0, 1)}); e != api.ErrFull || gap != (api.Num{}) {
		t.Errorf("%v %d", gap, e)
	}
	m.States[0].Choices[0].Reward = ratio(-1, 1)
	if gap, e := Gap(m, ratio(api.MaxNum-1, api.MaxNum), []api.Num{ratio(0, 1)}); e != api.OK || gap != ratio(api.MaxNum, 1) {
		t.Errorf("%v %d", gap, e)
	}
	// a yield that is not the best one counts too
	m = read("model 1\nstate 0 0\nchoice 0: 0 1\nchoice -1152921504606846976: 0 1\n")
	if gap, e := Gap(m, ratio(1, 2), []api.Num{ratio(-4, 1)}); e != api.ErrFull || gap != (api.Num{}) {
		t.Errorf("%v %d", gap, e)
	}
	if l, e := Yields(m, ratio(1, 2), []api.Num{ratio(-4, 1)}); e != api.ErrFull || len(l) != 0 {
		t.Errorf("%v %d", l, e)
	}
	if gap, e := Gap(m, ratio(1, 2), []api.Num{ratio(4, 1)}); e != api.OK || gap != ratio(4, 1) {
		t.Errorf("%v %d", gap, e)
	}
}

// P11.5
func TestSteps(t *testing.T) {
	valid := map[bool]int{}
	samples(600, func(r *rand.Rand, m api.Model, factor api.Num, plain bool) {
		n := r.Intn(r.Intn(12) + 1)
		x, e := Steps(m, factor, n)
		valid[compare(t, "Steps", x, e, stepsOf(m, factor, n))]++
	})
	if valid[true] < 200 || valid[false] < 50 {
		t.Errorf("%v", valid)
	}
}

// P11.5: the players choose by the number of steps that are left, and results are valid after many steps
func TestManySteps(t *testing.T) {
	m := read(market)
	for n, want := range []api.Num{ratio(0, 1), ratio(0, 1), ratio(1, 2), ratio(1, 2), ratio(5, 8)} {
		if x, e := Steps(m, ratio(1, 2), n); e != api.OK || x[0] != want {
			t.Errorf("%d steps: %v %d", n, x, e)
		}
	}
	if x, e := Steps(m, ratio(1, 2), 1000); e != api.ErrFull || len(x) != 0 {
		t.Errorf("%v %d", x, e)
	}
	if x, e := Steps(m, ratio(1, 4), 1000); e != api.OK || !slices.Equal(x, []api.Num{ratio(0, 1), ratio(3, 1), ratio(0, 1)}) {
		t.Errorf("%v %d", x, e)
	}
	// the reward is paid at once and given back in the next step
	m = read("model 3\nstate 0 0\nchoice 2: 1 1\nstate 1 0\nchoice -4: 2 1\nstate 1 0\nchoice 0: 2 1\n")
	for n, want := range []int{0, 2, 0, 0} {
		if x, e := Steps(m, ratio(1, 2), n); e != api.OK || x[0] != ratio(want, 1) {
			t.Errorf("%d steps: %v %d", n, x, e)
		}
	}
	if x, e := Steps(m, ratio(1, 2), 1000); e != api.OK || !slices.Equal(x, []api.Num{ratio(0, 1), ratio(-4, 1), ratio(0, 1)}) {
		t.Errorf("%v %d", x, e)
	}
}

// P11.7 and P4: no other choices of one player make the worth better for it
func TestSaddle(t *testing.T) {
	pairs := 0
	samples(300, func(r *rand.Rand, m api.Model, factor api.Num, plain bool) {
		x, s, e := Best(m, factor)
		if e != api.OK {
			return
		}
		y, f := Of(m, factor, s)
		if f != api.OK || !slices.Equal(x, y) {
			t.Fatalf("%v instead of %v", y, x)
		}
		for _, other := range strategies(m) {
			for i, a := range worths(m, factor, merge(m, other, s)) {
				if a.Cmp(wideOf(x[i])) > 0 {
					t.Fatalf("player 0 gains by %v", other)
				}
			}
			for i, a := range worths(m, factor, merge(m, s, other)) {
				if a.Cmp(wideOf(x[i])) < 0 {
					t.Fatalf("player 1 gains by %v", other)
				}
			}
			pairs++
		}
	})
	if pairs < 1000 {
		t.Errorf("%d pairs", pairs)
	}
}

// P11.8: no number differs from the value by more than the gap
func TestGap(t *testing.T) {
	tight := 0
	samples(400, func(r *rand.Rand, m api.Model, factor api.Num, plain bool) {
		x, _, e := Best(m, factor)
		if e != api.OK {
			return
		}
		if gap, f := Gap(m, factor, x); f == api.OK && gap != ratio(0, 1) {
			t.Fatalf("%v", gap)
		}
		v := sampleList(r, m)
		gap, f := Gap(m, factor, v)
		if f != api.OK {
			return
		}
		for i, a := range v {
			d := new(big.Rat).Sub(wideOf(a), wideOf(x[i]))
			sign := d.Abs(d).Cmp(wideOf(gap))
			if sign > 0 {
				t.Fatalf("%v differs from %v by more than %v", a, x[i], gap)
			}
			if sign == 0 {
				tight++
			}
		}
	})
	if tight < 10 {
		t.Errorf("%d", tight)
	}
}

// changed returns m with other rewards.
func changed(m api.Model, change func(reward *big.Rat) *big.Rat) (api.Model, bool) {
	out := copyOf(m)
	for i := range out.States {
		for j := range out.States[i].Choices {
			reward, valid := numOf(change(wideOf(out.States[i].Choices[j].Reward)))
			if !valid {
				return api.Model{}, false
			}
			out.States[i].Choices[j].Reward = reward
		}
	}
	return out, true
}

// P11.9: other rewards change the values in the same way, and the strategy remains optimal
func TestLinear(t *testing.T) {
	count := 0
	samples(400, func(r *rand.Rand, m api.Model, factor api.Num, plain bool) {
		x, s, e := Best(m, factor)
		if e != api.OK {
			return
		}
		a, c := big.NewRat(int64(1+r.Intn(9)), int64(1+r.Intn(9))), big.NewRat(int64(r.Intn(19)-9), int64(1+r.Intn(9)))
		shift := new(big.Rat).Quo(c, new(big.Rat).Sub(big.NewRat(1, 1), wideOf(factor)))
		changes := []struct{ reward, value func(*big.Rat) *big.Rat }{
			{func(b *big.Rat) *big.Rat { return b.Mul(b, a) }, func(b *big.Rat) *big.Rat { return b.Mul(b, a) }},
			{func(b *big.Rat) *big.Rat { return b.Add(b, c) }, func(b *big.Rat) *big.Rat { return b.Add(b, shift) }},
		}
		for _, change := range changes {
			other, valid := changed(m, change.reward)
			if !valid {
				continue
			}
			var want []*big.Rat
			for _, b := range x {
				want = append(want, change.value(wideOf(b)))
			}
			y, u, f := Best(other, factor)
			if compare(t, "Best", y, f, want) {
				count++
				if !slices.Equal(s, u) {
					t.Fatalf("%v instead of %v", u, s)
				}
			}
		}
	})
	if count < 300 {
		t.Errorf("%d", count)
	}
}

// TestLongNumbers: the worth of the first strategies is not valid, but that of the optimal one is.
func TestLongNumbers(t *testing.T) {
	m := read("model 2\nstate 0 0\nchoice 1/3: 0 1/1152921504606846883, 1 1152921504606846882/1152921504606846883\nchoice 1: 0 1\nstate 1 0\nchoice 5/7: 0 1\nchoice -1: 1 1\n")
	if !model.Valid(m) {
		t.Fatal("model")
	}
	x, s, e := Best(m, ratio(1, 2))
	if e != api.OK || !slices.Equal(x, []api.Num{ratio(2, 1), ratio(-2, 1)}) || !slices.Equal(s, []int{1, 1}) {
		t.Errorf("%v %v %d", x, s, e)
	}
	if x, e := Of(m, ratio(1, 2), []int{0, 0}); e != api.ErrFull || len(x) != 0 {
		t.Errorf("%v %d", x, e)
	}
}

// P11.1, P11.3: values and strategies of games with many states and choices
func TestManyStates(t *testing.T) {
	r := rand.New(rand.NewSource(7))
	valid := 0
	for range 200 {
		n := 10 + r.Intn(api.MaxStates-9)
		m := sample(r, n, false, 3, 4)
		for s, state := range m.States {
			for len(state.Choices) < api.MaxChoices {
				state.Choices = append(state.Choices, sampleChoice(r, n, 4, ratio(r.Intn(9)-4, 1)))
			}
			// the states lead to few others, so that many values are valid
			for i := range state.Choices {
				if r.Intn(8) > 0 {
					state.Choices[i].Branches = []api.Branch{{To: r.Intn(n/4 + 1), Chance: ratio(1, 1)}}
				}
			}
			m.States[s] = state
		}
		factor := ratio(1, 2+r.Intn(3))
		x, s, e := Best(m, factor)
		if e != api.OK {
			continue
		}
		valid++
		if is, e := Check(m, factor, x); e != api.OK || !is {
			t.Fatalf("%v: %v %d", x, is, e)
		}
		for i, state := range m.States {
			if least, yield := bestYield(state, factor, wideList(x)); s[i] != least || yield.Cmp(wideOf(x[i])) != 0 {
				t.Fatalf("state %d: %d instead of %d", i, s[i], least)
			}
		}
	}
	if valid < 50 {
		t.Errorf("%d", valid)
	}
}
