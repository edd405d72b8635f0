package chain

import (
	"dicebox/api"
	"dicebox/graph"
	"dicebox/model"
	"math"
	"math/big"
	"math/rand"
	"reflect"
	"slices"
	"testing"
)

// numbers returns integers as numbers.
func numbers(l ...int) []api.Num {
	var out []api.Num
	for _, n := range l {
		out = append(out, api.Num{Top: n, Low: 1})
	}
	return out
}

// state returns a state with a single choice, whose branches lead to states with chances.
func state(reward int, branches ...api.Branch) api.State {
	return api.State{Choices: []api.Choice{{Reward: whole(reward), Branches: branches}}}
}

// to returns a branch.
func to(s, top, low int) api.Branch { return api.Branch{To: s, Chance: ratio(top, low)} }

// pair returns the chain of the example of the document.
func pair() api.Model {
	return api.Model{States: []api.State{state(3, to(0, 1, 2), to(1, 1, 2)), state(-1, to(0, 1, 3), to(1, 2, 3))}}
}

// game returns a chain with two bottom components.
func game() api.Model {
	return api.Model{States: []api.State{state(1, to(0, 1, 2), to(1, 1, 4), to(2, 1, 4)), state(0, to(1, 1, 1)), state(2, to(2, 1, 1))}}
}

func checkNumbers(t *testing.T, name string, got []api.Num, e api.Errno, want ...api.Num) {
	t.Helper()
	if e != api.OK || !slices.Equal(got, want) {
		t.Errorf("%s: %v %d instead of %v", name, got, e, want)
	}
}

func TestExamples(t *testing.T) {
	l, e := Stationary(pair())
	if len(l) != 1 {
		t.Fatalf("%v %d", l, e)
	}
	checkNumbers(t, "Stationary", l[0], e, ratio(2, 5), ratio(3, 5))
	values, e := Time(pair(), []int{1})
	if !slices.Equal(values, []Value{{Num: whole(2)}, {Num: whole(0)}}) || e != api.OK {
		t.Errorf("%v %d", values, e)
	}
	x, e := Reach(game(), []int{2})
	checkNumbers(t, "Reach", x, e, ratio(1, 2), whole(0), whole(1))
	x, e = Within(game(), []int{2}, 2)
	checkNumbers(t, "Within", x, e, ratio(3, 8), whole(0), whole(1))
	x, e = After(game(), []api.Num{ratio(1, 2), whole(0), ratio(1, 2)}, 1)
	checkNumbers(t, "After", x, e, ratio(1, 4), ratio(1, 8), ratio(5, 8))
	x, e = LongRun(game(), 0)
	checkNumbers(t, "LongRun", x, e, whole(0), ratio(1, 2), ratio(1, 2))
	x, e = Reward(pair(), 2)
	checkNumbers(t, "Reward", x, e, whole(4), ratio(-2, 3))
	values, e = Visits(game(), 0)
	if !slices.Equal(values, []Value{{Num: whole(2)}, {Inf: true}, {Inf: true}}) || e != api.OK {
		t.Errorf("%v %d", values, e)
	}
	values, e = Visits(game(), 1)
	if !slices.Equal(values, []Value{{Num: whole(0)}, {Inf: true}, {Num: whole(0)}}) || e != api.OK {
		t.Errorf("%v %d", values, e)
	}
	values, e = Time(game(), []int{2})
	if !slices.Equal(values, []Value{{Inf: true}, {Inf: true}, {Num: whole(0)}}) || e != api.OK {
		t.Errorf("%v %d", values, e)
	}
	chance, e := Chance(game(), []int{0, 0, 2, 2})
	checkNumbers(t, "Chance", []api.Num{chance}, e, ratio(1, 8))
	chance, e = Chance(game(), []int{0, 1, 2})
	checkNumbers(t, "Chance", []api.Num{chance}, e, whole(0))
}

// P6.1
func TestAfter(t *testing.T) {
	valid := 0
	samples(400, func(r *rand.Rand, m api.Model, plain bool) {
		n, p := len(m.States), chances(m)
		d := sampleChances(r, n, 60)
		x := zeros(n)
		for s := range d {
			x[s] = wideOf(d[s])
		}
		for steps := range r.Intn(25) {
			got, e := After(m, d, steps)
			if compare(t, "After", got, e, x) {
				valid++
			}
			x = product(x, p)
		}
	})
	if valid < 500 {
		t.Errorf("only %d distributions are valid", valid)
	}
}

// P6.3, P6.10: the chances of all paths that end when they enter goal
func TestWithinPaths(t *testing.T) {
	samples(200, func(r *rand.Rand, m api.Model, plain bool) {
		goal := subset(r, len(m.States))
		for n := range 5 {
			var want []*big.Rat
			for s := range m.States {
				want = append(want, first(m, goal, s, n, big.NewRat(1, 1)))
			}
			got, e := Within(m, goal, n)
			compare(t, "Within", got, e, want)
		}
	})
}

// first returns the sum of the chances of the paths from s whose last state is their first one in goal,
// with at most n steps, each multiplied by chance.
func first(m api.Model, goal []int, s, n int, chance *big.Rat) *big.Rat {
	if slices.Contains(goal, s) {
		return chance
	}
	out := new(big.Rat)
	if n == 0 {
		return out
	}
	for _, b := range branches(m, s) {
		out.Add(out, first(m, goal, b.To, n-1, new(big.Rat).Mul(chance, wideOf(b.Chance))))
	}
	return out
}

// P6.10: Within does not decrease with n and does not exceed Reach
func TestWithinGrows(t *testing.T) {
	samples(100, func(r *rand.Rand, m api.Model, plain bool) {
		goal := subset(r, len(m.States))
		most, e := Reach(m, goal)
		if e != api.OK {
			return
		}
		before := slices.Repeat(numbers(0), len(m.States))
		for n := range 12 {
			now, e := Within(m, goal, n)
			if e != api.OK {
				return
			}
			for s := range now {
				if wideOf(now[s]).Cmp(wideOf(before[s])) < 0 || wideOf(now[s]).Cmp(wideOf(most[s])) > 0 {
					t.Fatalf("%v, %v, %v", before, now, most)
				}
			}
			before = now
		}
	})
}

// P6.8
func TestReward(t *testing.T) {
	samples(300, func(r *rand.Rand, m api.Model, plain bool) {
		p := chances(m)
		want := zeros(len(p))
		for n := range r.Intn(12) {
			got, e := Reward(m, n)
			compare(t, "Reward", got, e, want)
			next := zeros(len(p))
			for s, state := range m.States {
				next[s].Set(wideOf(state.Choices[0].Reward))
				for u, chance := range p[s] {
					next[s].Add(next[s], new(big.Rat).Mul(chance, want[u]))
				}
			}
			want = next
		}
	})
}

// fixedAt returns the row and the right side of the equation: number s of n is a.
func fixedAt(n, s int, a int64) ([]*big.Rat, *big.Rat) {
	row := zeros(n)
	row[s].SetInt64(1)
	return row, big.NewRat(a, 1)
}

// P6.2, P6.4, P6.11: the unique solutions of the equations
func TestReachAndTime(t *testing.T) {
	infinite := 0
	samples(800, func(r *rand.Rand, m api.Model, plain bool) {
		n, p, goal := len(m.States), chances(m), subset(r, len(m.States))
		path := leads(p)
		isPossible := func(s int) bool {
			return slices.ContainsFunc(goal, func(u int) bool { return path[s][u] })
		}
		rows, right := make([][]*big.Rat, n), make([]*big.Rat, n)
		for s := range n {
			switch {
			case slices.Contains(goal, s):
				rows[s], right[s] = fixedAt(n, s, 1)
			case !isPossible(s):
				rows[s], right[s] = fixedAt(n, s, 0)
			default:
				rows[s], right[s] = fixedAt(n, s, 0)
				for u := range n {
					rows[s][u].Sub(rows[s][u], p[s][u])
				}
			}
		}
		reach := gauss(t, rows, right)
		got, e := Reach(m, goal)
		if !compare(t, "Reach", got, e, reach) && plain {
			t.Fatal("ErrFull for a plain model")
		}
		for s := range n {
			if reach[s].Cmp(big.NewRat(1, 1)) != 0 {
				rows[s], right[s] = fixedAt(n, s, 0)
			} else if !slices.Contains(goal, s) {
				right[s] = big.NewRat(1, 1)
			} else {
				right[s] = new(big.Rat)
			}
		}
		times := gauss(t, rows, right)
		for s := range n {
			if reach[s].Cmp(big.NewRat(1, 1)) != 0 {
				times[s] = nil
				infinite++
			}
		}
		values, e := Time(m, goal)
		if !compareValues(t, "Time", values, e, times) && plain {
			t.Fatal("ErrFull for a plain model")
		}
	})
	if infinite < 100 {
		t.Errorf("%d infinite values", infinite)
	}
}

// P6.5, P6.11
func TestVisits(t *testing.T) {
	samples(800, func(r *rand.Rand, m api.Model, plain bool) {
		n, p, s := len(m.States), chances(m), r.Intn(len(m.States))
		path := leads(p)
		isLast := func(u int) bool {
			return !slices.ContainsFunc(allStates(n), func(v int) bool { return path[u][v] && !path[v][u] })
		}
		rows, right := make([][]*big.Rat, n), make([]*big.Rat, n)
		for u := range n {
			rows[u], right[u] = fixedAt(n, u, 0)
			if isLast(u) {
				continue
			}
			for v := range n {
				rows[u][v].Sub(rows[u][v], p[v][u])
			}
			if u == s {
				right[u].SetInt64(1)
			}
		}
		want := gauss(t, rows, right)
		for u := range n {
			if isLast(u) && path[s][u] {
				want[u] = nil
			}
		}
		got, e := Visits(m, s)
		if !compareValues(t, "Visits", got, e, want) && plain {
			t.Fatal("ErrFull for a plain model")
		}
	})
}

func allStates(n int) []int {
	var out []int
	for i := range n {
		out = append(out, i)
	}
	return out
}

// stationaryOf returns the stationary distribution of a bottom component.
func stationaryOf(t *testing.T, p [][]*big.Rat, component []int) []*big.Rat {
	n := len(p)
	rows, right := make([][]*big.Rat, n), make([]*big.Rat, n)
	for s := range n {
		rows[s], right[s] = fixedAt(n, s, 0)
		if slices.Contains(component, s) {
			for u := range n {
				rows[s][u].Sub(rows[s][u], p[u][s])
			}
			for u := range n {
				if !slices.Contains(component, u) {
					rows[s][u].SetInt64(0)
				}
			}
		}
	}
	for s := range n {
		rows[component[0]][s].SetInt64(0)
	}
	for _, s := range component {
		rows[component[0]][s].SetInt64(1)
	}
	right[component[0]].SetInt64(1)
	return gauss(t, rows, right)
}

// P6.6, P6.7, P6.12
func TestLongRun(t *testing.T) {
	full, several := 0, 0
	samples(800, func(r *rand.Rand, m api.Model, plain bool) {
		n, p, s := len(m.States), chances(m), r.Intn(len(m.States))
		bottom, _ := graph.Bottom(m)
		if len(bottom) > 1 {
			several++
		}
		got, e := Stationary(m)
		longRun := zeros(n)
		for i, component := range bottom {
			want := stationaryOf(t, p, component)
			if e == api.OK {
				compare(t, "Stationary", got[i], e, want)
			} else if plain {
				t.Fatal("ErrFull for a plain model")
			} else {
				full++
			}
			chance := reachOf(t, p, component)[s]
			for u := range n {
				longRun[u].Add(longRun[u], new(big.Rat).Mul(want[u], chance))
			}
		}
		if e == api.OK && len(got) != len(bottom) {
			t.Fatalf("%v", got)
		}
		for u, a := range product(longRun, p) {
			if a.Cmp(longRun[u]) != 0 {
				t.Fatal("the oracle changes with a step")
			}
		}
		shares, e := LongRun(m, s)
		if !compare(t, "LongRun", shares, e, longRun) && plain {
			t.Fatal("ErrFull for a plain model")
		}
	})
	if several < 50 || full < 10 {
		t.Errorf("%d chains with several components, %d ErrFull", several, full)
	}
}

// reachOf returns the chances of reaching a bottom component: the limit of the stochastic process is
// found from the equations, in which all states that do not lead to it have 0.
func reachOf(t *testing.T, p [][]*big.Rat, component []int) []*big.Rat {
	n := len(p)
	path := leads(p)
	rows, right := make([][]*big.Rat, n), make([]*big.Rat, n)
	for s := range n {
		rows[s], right[s] = fixedAt(n, s, 0)
		switch {
		case slices.Contains(component, s):
			right[s].SetInt64(1)
		case path[s][component[0]]:
			for u := range n {
				rows[s][u].Sub(rows[s][u], p[s][u])
			}
		}
	}
	return gauss(t, rows, right)
}

// P6.6: ErrFull exactly if a distribution is not valid
func TestStationaryFull(t *testing.T) {
	samples(400, func(r *rand.Rand, m api.Model, plain bool) {
		bottom, _ := graph.Bottom(m)
		want := api.OK
		for _, component := range bottom {
			for _, a := range stationaryOf(t, chances(m), component) {
				if _, valid := numOf(a); !valid {
					want = api.ErrFull
				}
			}
		}
		if l, e := Stationary(m); e != want || e != api.OK && l != nil {
			t.Fatalf("%v %d instead of %d", l, e, want)
		}
	})
}

// P6.9
func TestChance(t *testing.T) {
	full := 0
	samples(400, func(r *rand.Rand, m api.Model, plain bool) {
		p := chances(m)
		path := []int{r.Intn(len(p))}
		want := big.NewRat(1, 1)
		for range r.Intn(12) {
			s := path[len(path)-1]
			l := branches(m, s)
			next := l[r.Intn(len(l))].To
			if r.Intn(10) == 0 {
				next = r.Intn(len(p))
			}
			path = append(path, next)
			want.Mul(want, p[s][next])
		}
		got, e := Chance(m, path)
		if e == api.ErrFull {
			if _, valid := numOf(want); valid || got != (api.Num{}) {
				t.Fatalf("%v", got)
			}
			full++
			return
		}
		compare(t, "Chance", []api.Num{got}, e, []*big.Rat{want})
	})
	if full < 10 {
		t.Errorf("%d ErrFull", full)
	}
}

// P6.9: lists that are refused, and the longest path
func TestChancePaths(t *testing.T) {
	for _, path := range [][]int{nil, {}, {3}, {-1}, {0, 3}, {0, 0, -1}, {math.MaxInt}, {math.MinInt}, make([]int, api.MaxSteps+2), make([]int, 1<<20)} {
		if x, e := Chance(game(), path); e != api.ErrRange || x != (api.Num{}) {
			t.Errorf("%d states: %v %d", len(path), x, e)
		}
	}
	longest := slices.Repeat([]int{1}, api.MaxSteps+1)
	if x, e := Chance(game(), longest); e != api.OK || x != whole(1) {
		t.Errorf("%v %d", x, e)
	}
	// a step that is not possible makes the product 0, whatever the others are
	path := append(slices.Repeat([]int{0}, 190), 1, 2)
	if x, e := Chance(game(), path); e != api.OK || x != whole(0) {
		t.Errorf("%v %d", x, e)
	}
	if x, e := Chance(game(), path[:190]); e != api.ErrFull || x != (api.Num{}) {
		t.Errorf("%v %d", x, e)
	}
}

// call is a call of a function with a model.
type call func(m api.Model) (any, api.Errno)

// calls returns one call of each function; s is used as a state, l as a set or path, d as a
// distribution and n as a number of steps.
func calls(s int, l []int, d []api.Num, n int) []call {
	return []call{
		func(m api.Model) (any, api.Errno) { x, e := After(m, d, n); return x, e },
		func(m api.Model) (any, api.Errno) { x, e := Within(m, l, n); return x, e },
		func(m api.Model) (any, api.Errno) { x, e := Reward(m, n); return x, e },
		func(m api.Model) (any, api.Errno) { x, e := Reach(m, l); return x, e },
		func(m api.Model) (any, api.Errno) { x, e := Time(m, l); return x, e },
		func(m api.Model) (any, api.Errno) { x, e := Visits(m, s); return x, e },
		func(m api.Model) (any, api.Errno) { x, e := LongRun(m, s); return x, e },
		func(m api.Model) (any, api.Errno) { x, e := Stationary(m); return x, e },
		func(m api.Model) (any, api.Errno) { x, e := Chance(m, l); return x, e },
	}
}

// isNothing reports whether a result is what accompanies an error.
func isNothing(x any) bool {
	v := reflect.ValueOf(x)
	return v.Kind() == reflect.Slice && v.Len() == 0 || v.Kind() == reflect.Struct && v.IsZero()
}

// choices returns the model game, but with two choices in the last state.
func choices() api.Model {
	m := game()
	m.States[2].Choices = append(m.States[2].Choices, m.States[1].Choices...)
	return m
}

// notValid contains models that are not valid.
func notValid() []api.Model {
	edits := []func(m *api.Model){
		func(m *api.Model) { m.States = nil },
		func(m *api.Model) { m.States[0].Owner = -1 },
		func(m *api.Model) { m.States[2].Choices = nil },
		func(m *api.Model) { m.States[2].Choices[0].Reward = api.Num{} },
		func(m *api.Model) { m.States[0].Choices[0].Branches[2].Chance = ratio(1, 3) },
		func(m *api.Model) { m.States[1].Choices[0].Branches[0].To = 3 },
		func(m *api.Model) { m.States = append(m.States, slices.Repeat(m.States[1:2], api.MaxStates)...) },
	}
	var out []api.Model
	for _, edit := range edits {
		for _, m := range []api.Model{game(), choices()} {
			edit(&m)
			out = append(out, m)
		}
	}
	return out
}

// TestErrors: which error comes first.
func TestErrors(t *testing.T) {
	unit := numbers(1, 0, 0)
	bad := [][]api.Num{nil, numbers(1, 0), numbers(1, 0, 0, 0), numbers(0, 0, 0), numbers(1, 1, 0), numbers(2, -1, 0), {whole(1), {}, whole(0)},
		{{Top: 2, Low: 4}, ratio(1, 2), whole(0)}, {ratio(1, api.MaxNum), ratio(1, api.MaxNum-1), whole(0)}, {ratio(-1, 2), ratio(1, 2), whole(1)}}
	check := func(name string, m api.Model, l []call, want api.Errno) {
		t.Helper()
		for i, f := range l {
			if x, e := f(m); e != want || !isNothing(x) {
				t.Errorf("%s: call %d: %v %d instead of %d", name, i, x, e, want)
			}
		}
	}
	for _, m := range notValid() {
		check("model", m, calls(0, []int{0}, unit, 0), api.ErrArg)
		check("model", m, calls(7, []int{9, 8}, bad[1], -1), api.ErrArg)
	}
	for _, m := range []api.Model{game(), choices()} {
		for _, d := range bad {
			check("distribution", m, calls(0, nil, d, -1)[:1], api.ErrArg)
		}
		for _, l := range [][]int{{3}, {-1}, {1, 1}, {1, 0}, {0, 1, 2, 3}, {math.MinInt}, {math.MaxInt}} {
			all := calls(0, l, unit, -1)
			check("set", m, []call{all[1], all[3], all[4]}, api.ErrArg)
		}
		for _, s := range []int{-1, 3, math.MinInt, math.MaxInt} {
			check("state", m, calls(s, nil, nil, 0)[5:7], api.ErrArg)
		}
	}
	check("choices", choices(), calls(0, []int{0}, unit, -1), api.ErrKind)
	check("path", choices(), calls(0, []int{-1}, unit, 0)[8:], api.ErrKind)
	for _, n := range []int{-1, 1001, math.MinInt, math.MaxInt} {
		check("steps", game(), calls(0, []int{0}, unit, n)[:3], api.ErrRange)
	}
}

// TestManySteps: with the greatest number of steps
func TestManySteps(t *testing.T) {
	m := game()
	m.States[0].Choices[0].Branches = []api.Branch{to(1, 1, 2), to(2, 1, 2)}
	x, e := After(m, numbers(1, 0, 0), 1000)
	checkNumbers(t, "After", x, e, whole(0), ratio(1, 2), ratio(1, 2))
	x, e = Within(m, []int{1}, 1000)
	checkNumbers(t, "Within", x, e, ratio(1, 2), whole(1), whole(0))
	x, e = Reward(m, 1000)
	checkNumbers(t, "Reward", x, e, whole(1000), whole(0), whole(2000))
	if x, e := After(game(), numbers(1, 0, 0), 61); e != api.ErrFull || len(x) != 0 {
		t.Errorf("%v %d", x, e)
	}
	x, e = After(game(), numbers(1, 0, 0), 59)
	checkNumbers(t, "After", x, e, ratio(1, 1<<59), ratio(1<<59-1, 1<<60), ratio(1<<59-1, 1<<60))
	m.States[1].Choices[0].Reward = whole(api.MaxNum / 1000)
	x, e = Reward(m, 1000)
	if e != api.OK || x[1] != whole(api.MaxNum/1000*1000) {
		t.Errorf("%v %d", x, e)
	}
	m.States[1].Choices[0].Reward = whole(api.MaxNum/1000 + 1)
	if x, e := Reward(m, 1000); e != api.ErrFull || len(x) != 0 {
		t.Errorf("%v %d", x, e)
	}
}

// The lower numbers of chances whose sum is not valid.
const (
	oneLow   = 1<<58 - 2
	otherLow = 1<<58 - 4
)

// split returns the branches to four states in order: with the chances 1 / oneLow, 1 / otherLow and, to the
// last two, what is left of 1/2 each.
func split(states ...int) []api.Branch {
	return []api.Branch{to(states[0], 1, oneLow), to(states[1], 1, otherLow), to(states[2], oneLow/2-1, oneLow), to(states[3], otherLow/2-1, otherLow)}
}

// TestLongNumbersBetween: numbers on the way to a valid result are not valid.
func TestLongNumbersBetween(t *testing.T) {
	stay := func(s int) api.State { return state(0, to(s, 1, 1)) }
	merged := api.Model{States: []api.State{state(0, split(1, 2, 3, 4)...), state(0, split(1, 2, 3, 5)...), state(0, split(2, 3, 4, 5)...), state(0, to(5, 1, 1)), state(0, to(5, 1, 1)), stay(5)}}
	merged.States[1] = state(0, split(2, 3, 4, 5)...)
	merged.States[2] = state(0, to(3, oneLow/2, oneLow), to(4, oneLow/2, oneLow))
	d := []api.Num{ratio(1, oneLow), ratio(oneLow-1, oneLow), whole(0), whole(0), whole(0), whole(0)}
	if x, e := After(merged, d, 2); e != api.ErrFull {
		t.Errorf("%v %d", x, e)
	}
	x, e := After(merged, d, 4)
	checkNumbers(t, "After", x, e, numbers(0, 0, 0, 0, 0, 1)...)

	// the chances of the goals 1 and 2 have no valid sum, but those of the states 3 and 4 complete it
	reach := api.Model{States: []api.State{state(0, split(1, 2, 3, 4)...), stay(1), stay(2),
		state(0, to(1, oneLow/2-2, oneLow-2), to(5, oneLow/2, oneLow-2)), state(0, to(1, otherLow/2-2, otherLow-2), to(5, otherLow/2, otherLow-2)), stay(5)}}
	want := []api.Num{ratio(1, 2), whole(1), whole(1), ratio(oneLow/2-2, oneLow-2), ratio(otherLow/2-2, otherLow-2), whole(0)}
	x, e = Reach(reach, []int{1, 2})
	checkNumbers(t, "Reach", x, e, want...)
	x, e = Within(reach, []int{1, 2}, 2)
	checkNumbers(t, "Within", x, e, want...)
	if x, e := Within(reach, []int{1, 2}, 1); e != api.ErrFull {
		t.Errorf("%v %d", x, e)
	}

	// the chance of the component 1, 2 is not valid
	share := api.Model{States: []api.State{state(0, split(1, 2, 3, 4)...), state(0, to(1, otherLow, otherLow+oneLow), to(2, oneLow, otherLow+oneLow)),
		state(0, to(1, otherLow, otherLow+oneLow), to(2, oneLow, otherLow+oneLow)), stay(3), stay(4)}}
	x, e = LongRun(share, 0)
	checkNumbers(t, "LongRun", x, e, whole(0), ratio(1, oneLow), ratio(1, otherLow), ratio(oneLow/2-1, oneLow), ratio(otherLow/2-1, otherLow))
	if x, e := Reach(share, []int{1, 2}); e != api.ErrFull {
		t.Errorf("%v %d", x, e)
	}

	// rewards beyond the limit that are paid back
	back := api.Model{States: []api.State{state(api.MaxNum, to(1, 1, 1)), state(api.MaxNum, to(2, 1, 1)), state(-api.MaxNum, to(3, 1, 1)), state(-api.MaxNum, to(0, 1, 1))}}
	x, e = Reward(back, 1000)
	checkNumbers(t, "Reward", x, e, numbers(0, 0, 0, 0)...)
	if x, e := Reward(back, 2); e != api.ErrFull {
		t.Errorf("%v %d", x, e)
	}

	// chances whose product becomes shorter again
	path := api.Model{States: []api.State{state(0, to(1, 1<<40-1, 1<<40), to(3, 1, 1<<40)), state(0, to(2, 1<<40-3, 1<<40-2), to(3, 1, 1<<40-2)), state(0, to(0, 1<<39-1, 1<<40-1), to(3, 1<<39, 1<<40-1)), stay(3)}}
	chance, e := Chance(path, []int{0, 1, 2, 0})
	checkNumbers(t, "Chance", []api.Num{chance}, e, ratio(1<<40-3, 1<<41))
	if x, e := Chance(path, []int{0, 1, 2}); e != api.ErrFull {
		t.Errorf("%v %d", x, e)
	}
}

// TestGreatest: as many states and branches as possible, and long chances.
func TestGreatest(t *testing.T) {
	m := api.Model{}
	for s := range api.MaxStates {
		var l []api.Branch
		for i := range api.MaxBranches {
			l = append(l, to(5*i+s%5, 1, 8))
		}
		m.States = append(m.States, state(s, l...))
	}
	x, e := Reach(m, []int{0})
	if e != api.OK || x[5] != whole(1) || x[1] != whole(0) {
		t.Errorf("%v %d", x, e)
	}
	x, e = LongRun(m, 7)
	if e != api.OK || x[2] != ratio(1, 8) || x[1] != whole(0) {
		t.Errorf("%v %d", x, e)
	}
	x, e = Reward(m, 1000)
	if e != api.OK || x[0] != ratio(1000*35-35, 2) {
		t.Errorf("%v %d", x, e)
	}
	// a walk to the right whose chances have different lower numbers
	for s := range api.MaxStates - 1 {
		m.States[s] = state(s, to(s, 1, 1<<60-s), to(s+1, 1<<60-s-1, 1<<60-s))
	}
	m.States[39] = state(0, to(39, 1, 1))
	x, e = Reach(m, []int{39})
	if e != api.OK || slices.ContainsFunc(x, func(a api.Num) bool { return a != whole(1) }) {
		t.Errorf("%v %d", x, e)
	}
	x, e = LongRun(m, 0)
	if e != api.OK || x[39] != whole(1) {
		t.Errorf("%v %d", x, e)
	}
	if x, e := Time(m, []int{39}); e != api.ErrFull || x != nil {
		t.Errorf("%v %d", x, e)
	}
}

// TestEffects: no call modifies its arguments, no result shares memory with them, and equal arguments
// yield equal results.
func TestEffects(t *testing.T) {
	m, l, d := game(), []int{0, 1}, numbers(0, 1, 0)
	spare := append(m.States[0].Choices[0].Branches, to(7, 1, 7))
	m.States[0].Choices[0].Branches = spare[:3]
	all := calls(0, l, d, 0)
	for i, f := range all {
		one, _ := f(m)
		two, _ := f(m)
		if !reflect.DeepEqual(one, two) {
			t.Errorf("call %d: %v, %v", i, one, two)
		}
		switch x := one.(type) {
		case []api.Num:
			clear(x[:cap(x)])
		case []Value:
			clear(x[:cap(x)])
		case [][]api.Num:
			clear(x[0][:cap(x[0])])
			if !reflect.DeepEqual(x[1:], two.([][]api.Num)[1:]) {
				t.Error("two distributions share memory")
			}
		}
		if !model.Identical(m, game()) || spare[3] != to(7, 1, 7) || !slices.Equal(l, []int{0, 1}) || !slices.Equal(d, numbers(0, 1, 0)) {
			t.Fatalf("call %d: %v %v %v", i, m, l, d)
		}
	}
}
