package discount

import (
	"dicebox/api"
	"dicebox/model"
	"math"
	"math/rand"
	"slices"
	"testing"
)

// notValid contains models that are not valid.
func notValid() []api.Model {
	edits := []func(m *api.Model){
		func(m *api.Model) { m.States = nil },
		func(m *api.Model) { m.States[0].Owner = 2 },
		func(m *api.Model) { m.States[0].Mark = 64 },
		func(m *api.Model) { m.States[0].Choices[0].Reward = api.Num{} },
		func(m *api.Model) { m.States[1].Choices = nil },
		func(m *api.Model) { m.States[1].Choices[0].Branches = nil },
		func(m *api.Model) { m.States[1].Choices[0].Branches[0].To = -1 },
		func(m *api.Model) { m.States[1].Choices[0].Branches[1].To = 3 },
		func(m *api.Model) { m.States[1].Choices[0].Branches[0].Chance.Low = 0 },
		func(m *api.Model) { m.States[1].Choices[0].Branches[0].Chance = ratio(1, 3) },
		func(m *api.Model) { m.States = slices.Repeat(m.States[2:], api.MaxStates+1) },
	}
	var out []api.Model
	for _, edit := range edits {
		m := read(market)
		edit(&m)
		out = append(out, m)
	}
	return out
}

// notNumbers contains numbers that are not valid.
func notNumbers() []api.Num {
	return []api.Num{{}, {Top: 2, Low: 4}, {Top: 1, Low: -2}, {Top: 1, Low: 0}, {Top: 1, Low: math.MaxInt}, {Top: math.MinInt, Low: 1}, {Top: 0, Low: 2}, {Top: 1, Low: api.MaxNum + 1}}
}

// notFactors contains numbers that are no factors.
func notFactors() []api.Num {
	return []api.Num{ratio(0, 1), ratio(1, 1), ratio(-1, 2), ratio(3, 2), ratio(api.MaxNum, 1), ratio(-api.MaxNum, 1), ratio(api.MaxNum, api.MaxNum-1)}
}

// notStrategies contains lists that are no strategies for the market.
func notStrategies() [][]int {
	return [][]int{nil, {0, 0}, {0, 0, 0, 0}, {2, 0, 0}, {0, 0, 1}, {0, 0, -1}, {math.MinInt, 0, 0}, {0, 0, math.MaxInt}}
}

// checkErrors checks that all functions return this error.
func checkErrors(t *testing.T, m api.Model, factor api.Num, want api.Errno) {
	t.Helper()
	if x, s, e := Best(m, factor); e != want || len(x)+len(s) != 0 {
		t.Errorf("Best: %v %v %d", x, s, e)
	}
	for _, v := range [][]api.Num{nil, {ratio(1, 1)}, {{}}, {ratio(2, 3), ratio(10, 3), ratio(0, 1)}} {
		if is, e := Check(m, factor, v); e != want || is {
			t.Errorf("Check: %v %d", is, e)
		}
		if len(v) == 1 && v[0].Low == 0 {
			continue
		}
		checkLists(t, m, factor, v, want)
	}
	for _, n := range []int{-1, 0, 5, 1001} {
		if x, e := Steps(m, factor, n); e != want || len(x) != 0 {
			t.Errorf("Steps: %v %d", x, e)
		}
	}
	if x, e := Of(m, factor, []int{0, 0, 0}); e != want || len(x) != 0 {
		t.Errorf("Of: %v %d", x, e)
	}
}

// checkLists checks that Yields and Gap return this error.
func checkLists(t *testing.T, m api.Model, factor api.Num, v []api.Num, want api.Errno) {
	t.Helper()
	if l, e := Yields(m, factor, v); e != want || len(l) != 0 {
		t.Errorf("Yields: %v %d", l, e)
	}
	if a, e := Gap(m, factor, v); e != want || a != (api.Num{}) {
		t.Errorf("Gap: %v %d", a, e)
	}
}

// P11.1 to P11.6: what is not valid, then factors that are none, then the rest
func TestErrors(t *testing.T) {
	for _, m := range notValid() {
		for _, factor := range append(append([]api.Num{ratio(1, 2)}, notFactors()...), notNumbers()...) {
			checkErrors(t, m, factor, api.ErrArg)
		}
	}
	m := read(market)
	for _, factor := range notNumbers() {
		checkErrors(t, m, factor, api.ErrArg)
	}
	for _, factor := range notFactors() {
		checkErrors(t, m, factor, api.ErrRange)
	}
	for _, factor := range append([]api.Num{ratio(1, 2)}, notFactors()...) {
		for _, s := range notStrategies() {
			if x, e := Of(m, factor, s); e != api.ErrArg || len(x) != 0 {
				t.Errorf("Of: %v %d", x, e)
			}
		}
		for _, a := range notNumbers() {
			checkLists(t, m, factor, []api.Num{a}, api.ErrArg)
			checkLists(t, m, factor, []api.Num{ratio(0, 1), ratio(0, 1), a}, api.ErrArg)
			checkLists(t, m, factor, []api.Num{ratio(0, 1), ratio(0, 1), ratio(0, 1), a}, api.ErrArg)
		}
	}
	for _, n := range []int{0, 1, 2, 4, 1 << 16} {
		checkLists(t, m, ratio(1, 2), slices.Repeat([]api.Num{ratio(0, 1)}, n), api.ErrDim)
	}
	for _, n := range []int{-1, 1001, math.MinInt, math.MaxInt} {
		if x, e := Steps(m, ratio(1, 2), n); e != api.ErrRange || len(x) != 0 {
			t.Errorf("Steps: %v %d", x, e)
		}
	}
}

// copyOf returns a model that shares no memory with m.
func copyOf(m api.Model) api.Model {
	out := api.Model{States: slices.Clone(m.States)}
	for i, state := range out.States {
		out.States[i].Choices = slices.Clone(state.Choices)
		for j, c := range state.Choices {
			out.States[i].Choices[j].Branches = slices.Clone(c.Branches)
		}
	}
	return out
}

// Rules 5 and 7: no call modifies its arguments, no result shares memory with them or with other results, and
// equal arguments yield equal results.
func TestEffects(t *testing.T) {
	samples(100, func(r *rand.Rand, m api.Model, factor api.Num, plain bool) {
		before, v := copyOf(m), sampleList(r, m)
		list := slices.Clone(v)
		x, s, e := Best(m, factor)
		if e != api.OK {
			return
		}
		wantX, wantS := slices.Clone(x), slices.Clone(s)
		y, _ := Of(m, factor, s)
		z, _ := Steps(m, factor, 2)
		l, _ := Yields(m, factor, v)
		wantZ, wantL := slices.Clone(z), slices.Concat(l...)
		Check(m, factor, x)
		Gap(m, factor, v)
		if !slices.Equal(x, wantX) || !slices.Equal(s, wantS) || !slices.Equal(y, wantX) {
			t.Fatalf("%v %v %v", x, s, y)
		}
		for i, yields := range l {
			for j := range yields[:cap(yields)] {
				yields[:cap(yields)][j].Top = 1000 * i
			}
		}
		for i, yields := range l {
			if slices.ContainsFunc(yields, func(a api.Num) bool { return a.Top != 1000*i }) {
				t.Fatal("two lists of a result share memory")
			}
		}
		clear(x[:cap(x)])
		clear(y[:cap(y)])
		clear(z[:cap(z)])
		clear(s[:cap(s)])
		x, s, _ = Best(m, factor)
		y, _ = Of(m, factor, s)
		z, _ = Steps(m, factor, 2)
		l, _ = Yields(m, factor, v)
		if !slices.Equal(x, wantX) || !slices.Equal(s, wantS) || !slices.Equal(y, wantX) || !slices.Equal(z, wantZ) || !slices.Equal(slices.Concat(l...), wantL) {
			t.Fatalf("%v %v %v %v", x, s, y, z)
		}
		if !model.Identical(m, before) || !slices.Equal(v, list) {
			t.Fatalf("%v %v", m, v)
		}
	})
}

// greatest returns a model with as many states, choices and branches as possible, whose chances are long.
func greatest(r *rand.Rand, reward func() api.Num) api.Model {
	n := api.MaxStates
	var m api.Model
	for range n {
		state := api.State{Owner: r.Intn(2)}
		for range api.MaxChoices {
			c := api.Choice{Reward: reward()}
			low := 1<<60 - r.Intn(1<<59)
			rest := low
			to := r.Perm(n)[:api.MaxBranches]
			slices.Sort(to)
			for i, s := range to {
				part := rest
				if i < len(to)-1 {
					part = 1 + r.Intn(rest/4)
				}
				rest -= part
				c.Branches = append(c.Branches, api.Branch{To: s, Chance: ratio(part, low)})
			}
			state.Choices = append(state.Choices, c)
		}
		m.States = append(m.States, state)
	}
	return m
}

// TestGreatest: models with as many states, choices and branches as possible, and factors with long numbers.
func TestGreatest(t *testing.T) {
	r := rand.New(rand.NewSource(1))
	m := greatest(r, func() api.Num { return ratio(r.Intn(1<<60)-1<<59, 1<<60-1) })
	equal := greatest(r, func() api.Num { return ratio(-3, 1) })
	for _, factor := range []api.Num{ratio(1, 2), ratio(1, api.MaxNum), ratio(api.MaxNum-1, api.MaxNum)} {
		if x, s, e := Best(m, factor); e != api.ErrFull || len(x)+len(s) != 0 {
			t.Errorf("%v %v %d", x, s, e)
		}
		if x, e := Of(m, factor, make([]int, api.MaxStates)); e != api.ErrFull || len(x) != 0 {
			t.Errorf("%v %d", x, e)
		}
		if x, e := Steps(m, factor, 1000); e != api.ErrFull || len(x) != 0 {
			t.Errorf("%v %d", x, e)
		}
		if x, e := Steps(m, factor, 1); e != api.OK || len(x) != api.MaxStates {
			t.Errorf("%v %d", x, e)
		}
		if is, e := Check(m, factor, slices.Repeat([]api.Num{ratio(1, api.MaxNum)}, api.MaxStates)); e != api.OK || is {
			t.Errorf("%v %d", is, e)
		}
		// if all rewards are equal, so are the values and all choices
		worth, valid := numOf(wideOf(ratio(-3*factor.Low, factor.Low-factor.Top)))
		x, s, e := Best(equal, factor)
		if !valid {
			if e != api.ErrFull {
				t.Errorf("%v %d", x, e)
			}
			continue
		}
		if e != api.OK || slices.ContainsFunc(x, func(a api.Num) bool { return a != worth }) || !slices.Equal(s, make([]int, api.MaxStates)) {
			t.Errorf("%v %v %d", x, s, e)
		}
		if is, e := Check(equal, factor, x); e != api.OK || !is {
			t.Errorf("%v %d", is, e)
		}
	}
}
