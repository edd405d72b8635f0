package multi

import (
	"dicebox/api"
	"dicebox/exact"
	"dicebox/model"
	"math"
	"math/big"
	"math/rand"
	"reflect"
	"slices"
	"testing"
	"time"
)

// checkErrors checks that all functions return an error for these arguments; only demands and weights, or only
// lotteries, are given to functions that take both if the others are nil.
func checkErrors(t *testing.T, m api.Model, goals [][]int, demand, weights []api.Num, lottery [][]api.Num, want api.Errno) {
	t.Helper()
	check := func(name string, e api.Errno, results ...any) {
		t.Helper()
		if e != want {
			t.Errorf("%s: %d", name, e)
		}
		for _, result := range results {
			if v := reflect.ValueOf(result); !v.IsZero() && (v.Kind() != reflect.Slice || v.Len() > 0) {
				t.Errorf("%s: %v", name, result)
			}
		}
	}
	x, e := Of(m, goals, lottery)
	check("Of", e, x)
	a, s, e := Best(m, goals, weights)
	check("Best", e, a, s)
	is, l, w, e := Decide(m, goals, demand)
	check("Decide", e, is, l, w)
	is, e = Meets(m, goals, demand, lottery)
	check("Meets", e, is)
	is, e = Refutes(m, goals, demand, weights)
	check("Refutes", e, is)
	for _, g := range []int{-1, 0, 1, 7} {
		a, l, e = Most(m, goals, demand, g)
		check("Most", e, a, l)
	}
}

// P14.1 to P14.6: models and goals that are not valid
func TestArguments(t *testing.T) {
	m := read(example)
	demand, lottery := numbers(2, 0, 1), pure(m, make([]int, 4))
	try := func(m api.Model, goals [][]int) {
		t.Helper()
		checkErrors(t, m, goals, demand, demand, lottery, api.ErrArg)
		checkErrors(t, m, goals, nil, nil, nil, api.ErrArg)
		if l, e := Corners(m, goals); e != api.ErrArg || len(l) != 0 {
			t.Errorf("Corners: %v %d", l, e)
		}
	}
	edits := []func(m *api.Model){
		func(m *api.Model) { m.States = nil },
		func(m *api.Model) { m.States[3].Owner = -1 },
		func(m *api.Model) { m.States[0].Choices[1].Reward = api.Num{} },
		func(m *api.Model) { m.States[1].Choices = nil },
		func(m *api.Model) { m.States[1].Choices[0].Branches[0].To = 4 },
		func(m *api.Model) { m.States[0].Choices[0].Branches[0].Chance = ratio(1, 3) },
		func(m *api.Model) { m.States = slices.Repeat(m.States[:1], api.MaxStates+1) },
	}
	for _, edit := range edits {
		bad := copyOf(m)
		edit(&bad)
		for _, goals := range [][][]int{{{1}, {2}}, nil, {{1}, {1}}} {
			try(bad, goals)
		}
	}
	for _, goals := range [][][]int{nil, {}, {{}}, {nil, {1}}, {{1}, {}}, {{1}, {1}}, {{1, 2}, {0, 2}}, {{2, 1}, {3}}, {{1, 1}, {2}}, {{1}, {4}}, {{-1}, {2}}, {{1}, {math.MaxInt}},
		{{0}, {1}, {2}, {3}, {3}}, slices.Repeat([][]int{{1}}, 1<<16), {make([]int, 1<<16), {1}}} {
		try(m, goals)
	}
	// five goals are too many, four are not
	long := api.Model{States: append(copyOf(m).States, staying(4))}
	goals := [][]int{{0}, {1}, {2}, {3}, {4}}
	lottery = append(lottery, numbers(1, 1))
	checkErrors(t, long, goals, numbers(1, 0, 0, 0, 0, 0), numbers(1, 0, 0, 0, 0, 0), lottery, api.ErrArg)
	if x, e := Of(long, goals[:4], lottery); e != api.OK || !slices.Equal(x, numbers(1, 1, 0, 0, 0)) {
		t.Errorf("Of: %v %d", x, e)
	}
}

// P14.1 to P14.6: demands, weights and lotteries that are not valid
func TestNumbers(t *testing.T) {
	m, goals := read(example), [][]int{{1}, {2}}
	good, lottery := numbers(2, 0, 1), pure(m, make([]int, 4))
	broken := [][]api.Num{nil, {}, numbers(2, 1), numbers(2, 1, 1, 0), numbers(2, 1, -1), {{}, number(0)}, {number(0), {Top: 2, Low: 4}}, {number(0), {Top: 0, Low: -1}}, {number(0), {Top: math.MinInt, Low: 1}},
		{number(0), {Top: 1, Low: math.MaxInt}}, slices.Repeat(numbers(1, 0), 1<<16)}
	for _, l := range broken {
		for _, g := range []int{-1, 0, 2} {
			if a, x, e := Most(m, goals, l, g); e != api.ErrArg || a != (api.Num{}) || len(x) != 0 {
				t.Errorf("Most: %v %v %d", a, x, e)
			}
		}
		if is, x, w, e := Decide(m, goals, l); e != api.ErrArg || is || len(x)+len(w) != 0 {
			t.Errorf("Decide: %v %v %v %d", is, x, w, e)
		}
		if a, s, e := Best(m, goals, l); e != api.ErrArg || a != (api.Num{}) || len(s) != 0 {
			t.Errorf("Best: %v %v %d", a, s, e)
		}
		for _, pair := range [][2][]api.Num{{l, good}, {good, l}} {
			if is, e := Refutes(m, goals, pair[0], pair[1]); e != api.ErrArg || is {
				t.Errorf("Refutes: %v %d", is, e)
			}
		}
		if is, e := Meets(m, goals, l, lottery); e != api.ErrArg || is {
			t.Errorf("Meets: %v %d", is, e)
		}
	}
	// weights may exceed 1, demands may not
	above := []api.Num{number(0), ratio(api.MaxNum, api.MaxNum-1)}
	if _, _, _, e := Decide(m, goals, above); e != api.ErrArg {
		t.Errorf("Decide: %d", e)
	}
	if _, _, e := Most(m, goals, above, 1); e != api.ErrArg {
		t.Errorf("Most: %d", e)
	}
	if is, e := Meets(m, goals, above, lottery); e != api.ErrArg || is {
		t.Errorf("Meets: %v %d", is, e)
	}
	if a, _, e := Best(m, goals, numbers(1, 0, 8)); e != api.OK || a != number(4) {
		t.Errorf("Best: %v %d", a, e)
	}
	if a, _, e := Best(m, goals, numbers(1, api.MaxNum, 0)); e != api.OK || a != number(api.MaxNum/4*3) {
		t.Errorf("Best: %v %d", a, e)
	}
	if a, s, e := Best(m, goals, []api.Num{ratio(1, api.MaxNum), number(0)}); e != api.ErrFull || a != (api.Num{}) || len(s) != 0 {
		t.Errorf("Best: %v %v %d", a, s, e)
	}
	for _, edit := range []func(l [][]api.Num) [][]api.Num{
		func(l [][]api.Num) [][]api.Num { return nil },
		func(l [][]api.Num) [][]api.Num { return l[1:] },
		func(l [][]api.Num) [][]api.Num { return append(l, numbers(1, 1)) },
		func(l [][]api.Num) [][]api.Num { l[0] = numbers(1, 1); return l },
		func(l [][]api.Num) [][]api.Num { l[0] = nil; return l },
		func(l [][]api.Num) [][]api.Num { l[3] = numbers(1, 1, 0); return l },
		func(l [][]api.Num) [][]api.Num { l[3] = slices.Repeat(numbers(1, 0), 1<<16); return l },
		func(l [][]api.Num) [][]api.Num { l[0] = numbers(3, 1, 1); return l },
		func(l [][]api.Num) [][]api.Num { l[0] = numbers(3, 2, 2); return l },
		func(l [][]api.Num) [][]api.Num { l[0] = numbers(1, 2, -1); return l },
		func(l [][]api.Num) [][]api.Num { l[0] = []api.Num{{Top: 2, Low: 4}, ratio(1, 2)}; return l },
		func(l [][]api.Num) [][]api.Num { l[2] = []api.Num{{Top: 1}}; return l },
		func(l [][]api.Num) [][]api.Num {
			l[0] = []api.Num{ratio(1, api.MaxNum), ratio(api.MaxNum-2, api.MaxNum-1)}
			return l
		},
	} {
		bad := edit(copies(lottery))
		if x, e := Of(m, goals, bad); e != api.ErrArg || len(x) != 0 {
			t.Errorf("Of: %v %d", x, e)
		}
		if is, e := Meets(m, goals, good, bad); e != api.ErrArg || is {
			t.Errorf("Meets: %v %d", is, e)
		}
	}
}

// P14.5, P14.6: the order of errors
func TestOrder(t *testing.T) {
	m := read(example)
	for _, g := range []int{-1, 2, math.MinInt, math.MaxInt} {
		for _, demand := range [][]api.Num{numbers(1, 0, 0), numbers(1, 1, 1)} {
			if a, l, e := Most(m, [][]int{{1}, {2}}, demand, g); e != api.ErrRange || a != (api.Num{}) || len(l) != 0 {
				t.Errorf("%v %v %d", a, l, e)
			}
		}
	}
	if a, l, e := Most(m, [][]int{{1}, {2}}, numbers(1, 1, 1), 1); e != api.ErrNone || a != (api.Num{}) || len(l) != 0 {
		t.Errorf("%v %v %d", a, l, e)
	}
	for _, goals := range [][][]int{{{1}}, {{1}, {2}, {3}}, {{0}, {1}, {2}, {3}}} {
		if l, e := Corners(m, goals); e != api.ErrKind || len(l) != 0 {
			t.Errorf("%v %d", l, e)
		}
	}
}

// TestExtremes: paths that have ended in the first state, or that never end
func TestExtremes(t *testing.T) {
	m := read(example)
	for _, c := range []struct {
		goals  [][]int
		corner []api.Num
	}{{[][]int{{0}, {1, 2}}, numbers(1, 1, 0)}, {[][]int{{3}, {0, 1}}, numbers(1, 0, 1)}, {[][]int{{1, 2, 3}, {0}}, numbers(1, 0, 1)}} {
		l, e := Corners(m, c.goals)
		if e != api.OK || len(l) != 1 || !slices.Equal(l[0], c.corner) {
			t.Errorf("%v: %v %d", c.goals, l, e)
		}
		for g := range 2 {
			a, lottery, e := Most(m, c.goals, numbers(1, 0, 0), g)
			if e != api.OK || a != c.corner[g] || !isLotteryOf(m, lottery) {
				t.Errorf("%v: %v %v %d", c.goals, a, lottery, e)
			}
		}
		is, lottery, _, e := Decide(m, c.goals, c.corner)
		if !is || !isLotteryOf(m, lottery) || e != api.OK {
			t.Errorf("%v: %v %v %d", c.goals, is, lottery, e)
		}
	}
	alone := api.Model{States: []api.State{staying(0), staying(1), staying(2)}}
	l, e := Corners(alone, [][]int{{1}, {2}})
	if e != api.OK || len(l) != 1 || !slices.Equal(l[0], numbers(1, 0, 0)) {
		t.Errorf("%v %d", l, e)
	}
	for _, c := range []struct {
		demand []api.Num
		want   bool
	}{{numbers(1, 0, 0), true}, {numbers(api.MaxNum, 0, 1), false}, {numbers(1, 1, 0), false}} {
		if is, done := isDecided(t, alone, [][]int{{1}, {2}}, c.demand, outcomes(alone, [][]int{{1}, {2}})); is != c.want || !done {
			t.Errorf("%v: %v", c.demand, is)
		}
	}
}

// P14.3, P14.5: all branches of the first state lead to goals or to states that are never left
func TestOneStep(t *testing.T) {
	r := rand.New(rand.NewSource(3))
	counts := map[bool]int{}
	for i := range 300 {
		n, count := api.MaxStates, 1+i%4
		var m api.Model
		for s := range n {
			state := staying(s)
			if choices := 1 + r.Intn(api.MaxChoices); s == 0 || s > 10 {
				state.Choices = nil
				for range choices {
					to := make([]int, api.MaxBranches)
					for j := range to {
						to[j] = 1 + r.Intn(8)
						if s > 0 {
							to[j] = r.Intn(n)
						}
					}
					state.Choices = append(state.Choices, leading(to, draw(r, len(to), 12)))
				}
			}
			m.States = append(m.States, state)
		}
		goals := [][]int{{1, 20}, {2, 3, 21}, {4}, {5, 6}}[:count]
		var l [][]api.Num
		for choice := range m.States[0].Choices {
			s := make([]int, n)
			s[0] = choice
			x, e := Of(m, goals, pure(m, s))
			if e != api.OK {
				t.Fatalf("%v: %d", m, e)
			}
			l = append(l, x)
		}
		demand := randomDemand(r, count, 12)
		is, lottery, weights, e := Decide(m, goals, demand)
		counts[is]++
		switch {
		case e != api.OK:
			t.Fatalf("%v %v: %d", m.States[0], demand, e)
		case is:
			if met, e := Meets(m, goals, demand, lottery); !met || e != api.OK {
				t.Fatalf("%v %v: %v", m.States[0], demand, lottery)
			}
		default:
			for _, x := range l {
				if wide := wides(weights); worth(wide, wides(x)).Cmp(worth(wide, wides(demand))) >= 0 {
					t.Fatalf("%v %v: %v", m.States[0], demand, weights)
				}
			}
		}
		a, lottery, e := Most(m, goals, demand, 0)
		if e != api.OK && e != api.ErrNone {
			t.Fatalf("%v %v: %d", m.States[0], demand, e)
		}
		if demand[0] = a; e == api.OK {
			if met, e := Meets(m, goals, demand, lottery); !met || e != api.OK {
				t.Fatalf("%v %v: %v", m.States[0], demand, lottery)
			}
		}
	}
	if counts[true] < 50 || counts[false] < 50 {
		t.Errorf("%v", counts)
	}
}

// greatest returns a model with as many states, choices and branches as possible. Chances are multiples of 1 / low,
// and the last four states are never left.
func greatest(r *rand.Rand, low int) api.Model {
	var m api.Model
	n := api.MaxStates
	for s := range n {
		state := staying(s)
		if s < n-4 {
			state.Choices = nil
			for range api.MaxChoices {
				to := append(r.Perm(n - 4)[:api.MaxBranches-2], n-1-r.Intn(2), n-3-r.Intn(2))
				state.Choices = append(state.Choices, leading(to, draw(r, len(to), low)))
			}
		}
		m.States = append(m.States, state)
	}
	return m
}

// TestGreatest: great models do not take long, and demands are decided although the numbers on the way are long
func TestGreatest(t *testing.T) {
	r := rand.New(rand.NewSource(1))
	counts := map[bool]int{}
	for _, low := range []int{12, 1 << 20, 1<<60 - 93} {
		m := greatest(r, low)
		n := api.MaxStates
		goals := [][]int{{n - 1}, {n - 2}, {n - 3}, {n - 4}}
		start := time.Now()
		for count := 2; count <= 4; count += 2 {
			for _, share := range []api.Num{ratio(1, 6), ratio(3, 5)} {
				demand := slices.Repeat([]api.Num{share}, count)
				is, lottery, weights, e := Decide(m, goals[:count], demand)
				counts[is]++
				if e != api.OK {
					t.Fatalf("%d %d %v: %d", low, count, share, e)
				}
				proved, f := false, api.OK
				if is {
					proved, f = Meets(m, goals[:count], demand, lottery)
				} else {
					proved, f = Refutes(m, goals[:count], demand, weights)
				}
				if !proved || f != api.OK {
					t.Fatalf("%d %d %v: %v %v %v %d", low, count, share, is, lottery, weights, f)
				}
				if _, _, e := Most(m, goals[:count], demand, 0); e != api.ErrFull && e != api.ErrNone {
					t.Fatalf("%d %d %v: %d", low, count, share, e)
				}
			}
		}
		if l, e := Corners(m, goals[:2]); low > 12 && (e != api.ErrFull || len(l) != 0) {
			t.Errorf("%d: %v %d", low, l, e)
		}
		if d := time.Since(start); d > time.Minute {
			t.Errorf("%d: %v", low, d)
		}
	}
	if len(counts) != 2 {
		t.Errorf("%v", counts)
	}
}

// TestRounded: rounded chances are close to others, and their sum is 1, too
func TestRounded(t *testing.T) {
	for _, l := range [][]api.Num{numbers(1<<60-93, 1, 1<<59, 1<<59-94), numbers(3, 0, 1, 2), numbers(1, 0, 1, 0), numbers(7, 2, 2, 2, 1)} {
		for _, digits := range []int{1, 20, 59} {
			near := rounded(exact.List(l), digits)
			numbers, e := exact.Nums(near)
			if e != api.OK || !areChances(numbers, len(l)) || dot(near, slices.Repeat([]exact.Rat{one()}, len(l))).Cmp(one()) != 0 {
				t.Fatalf("%v %d: %v %d", l, digits, numbers, e)
			}
			for i, a := range numbers {
				difference := new(big.Rat).Sub(wideOf(a), wideOf(l[i]))
				if (1<<digits)%a.Low != 0 || difference.Abs(difference).Cmp(big.NewRat(4, 1<<digits)) > 0 {
					t.Errorf("%v %d: %v", l, digits, numbers)
				}
			}
		}
	}
}

// TestClose: a demand that a valid lottery meets, or refutes, only just
func TestClose(t *testing.T) {
	const low = 1<<60 - 93
	// state 0 returns to itself with a long chance, so that the parts of both choices have to be long
	m := api.Model{States: []api.State{
		{Choices: []api.Choice{leading([]int{1, 3}, []api.Num{ratio(low/3, low), ratio(low-low/3, low)}), leading([]int{2, 3}, numbers(7, 3, 4))}},
		staying(1), staying(2), staying(3)}}
	goals := [][]int{{1}, {2}}
	all := outcomes(m, goals)
	for _, c := range []struct {
		demand []api.Num
		want   bool
	}{{[]api.Num{ratio(low/3, low), number(0)}, true}, {[]api.Num{ratio(low/3+1, low), number(0)}, false}, {numbers(1<<60, 1<<60/6, 1<<60/14*3), true}, {numbers(1<<60, 1<<60/6+1, 1<<60/14*3+3), false}} {
		if is, decided := isDecided(t, m, goals, c.demand, all); decided && is != c.want {
			t.Errorf("%v: %v", c.demand, is)
		}
	}
}

// Rules 5 and 7: no call modifies its arguments, no result shares memory with them or with other results, and equal
// arguments yield equal results.
func TestEffects(t *testing.T) {
	samples(150, func(r *rand.Rand, m api.Model, goals [][]int, _ bool) {
		demand := randomDemand(r, len(goals), 12)
		lottery := randomLottery(r, m, 12)
		arguments := func() []any { return []any{m, goals, demand, lottery} }
		before := []any{copyOf(m), copies(goals), slices.Clone(demand), copies(lottery)}
		run := func() []any {
			x, e0 := Of(m, goals, lottery)
			a, s, e1 := Best(m, goals, demand)
			is, l, w, e2 := Decide(m, goals, demand)
			b, k, e3 := Most(m, goals, demand, 0)
			c, e4 := Corners(m, goals)
			met, e5 := Meets(m, goals, demand, lottery)
			refuted, e6 := Refutes(m, goals, demand, demand)
			return []any{x, a, s, is, l, w, b, k, c, met, refuted, []api.Errno{e0, e1, e2, e3, e4, e5, e6}}
		}
		first, second := run(), run()
		if !reflect.DeepEqual(first, second) {
			t.Fatalf("%v %v", first, second)
		}
		overwrite(first)
		if third := run(); !reflect.DeepEqual(third, second) || !reflect.DeepEqual(arguments(), before) {
			t.Fatalf("%v %v", third, second)
		}
		if valid, _ := model.Plain(m); valid && !model.Valid(m) {
			t.Fatal(m)
		}
	})
}

// overwrite overwrites all lists of results with other numbers each, and panics if two of them share memory.
func overwrite(results []any) {
	var lists [][]api.Num
	for _, result := range results {
		switch l := result.(type) {
		case []api.Num:
			lists = append(lists, l)
		case [][]api.Num:
			lists = append(lists, l...)
		case []int:
			for i := range l {
				l[i] = 77
			}
		}
	}
	for i, l := range lists {
		for j := range l[:cap(l)] {
			l[:cap(l)][j] = number(i)
		}
	}
	for i, l := range lists {
		for _, a := range l {
			if a != number(i) {
				panic("shared memory")
			}
		}
	}
}
