package ends

import (
	"dicebox/api"
	"dicebox/graph"
	"dicebox/model"
	"math"
	"math/rand"
	"slices"
	"testing"
)

// dice is the game of dice of the document.
const dice = "model 3\nstate 0 0\nchoice 0: 1 2/3, 2 1/3\nchoice 0: 0 1/2, 1 1/4, 2 1/4\nstate 0 0\nchoice 0: 1 1\nstate 0 1\nchoice 0: 2 1\n"

// rooms returns a model with the end components {1, 4}, which state 3 may enter but not leave, within
// {1, 3, 4}, and {2}. State 0 belongs to none.
func rooms() api.Model {
	return api.Model{States: []api.State{
		{Choices: []api.Choice{choice(1, 1, 2)}},
		{Owner: 1, Mark: 5, Choices: []api.Choice{choice(2, 4), choice(3, 0, 4), choice(4, 0, 2, 3)}},
		{Choices: []api.Choice{choice(5, 2)}},
		{Mark: 7, Choices: []api.Choice{choice(6, 0), choice(7, 1, 4)}},
		{Choices: []api.Choice{choice(8, 1, 4), choice(9, 1), choice(10, 3)}},
	}}
}

func checkEnds(t *testing.T, name string, got []End, e api.Errno, want ...End) {
	t.Helper()
	if e != api.OK || !slices.EqualFunc(got, want, isEqual) {
		t.Fatalf("%s: %v %d instead of %v", name, got, e, want)
	}
}

func checkStates(t *testing.T, name string, got []int, e api.Errno, want ...int) {
	t.Helper()
	if e != api.OK || !slices.Equal(got, want) {
		t.Fatalf("%s: %v %d instead of %v", name, got, e, want)
	}
}

// P8.1 to P8.4
func TestExamples(t *testing.T) {
	l, e := Maximal(read(dice))
	checkEnds(t, "Maximal", l, e, End{[]int{1}, [][]int{{0}}}, End{[]int{2}, [][]int{{0}}})

	m := rooms()
	l, e = Maximal(m)
	checkEnds(t, "Maximal", l, e, End{[]int{1, 3, 4}, [][]int{{0}, {1}, {0, 1, 2}}}, End{[]int{2}, [][]int{{0}}})
	l, e = Inside(m, []int{0, 1, 4})
	checkEnds(t, "Inside", l, e, End{[]int{1, 4}, [][]int{{0}, {0, 1}}})
	l, e = Inside(m, []int{0, 1, 3})
	checkEnds(t, "Inside", l, e)
	l, e = Inside(m, nil)
	checkEnds(t, "Inside", l, e)
	states, e := Stay(m, []int{0, 1, 2})
	checkStates(t, "Stay", states, e, 2)
	states, e = Stay(m, []int{0, 1, 2, 4})
	checkStates(t, "Stay", states, e, 0, 1, 2, 4)
	states, e = Stay(m, []int{0, 1, 4})
	checkStates(t, "Stay", states, e, 1, 4)
	states, e = Stay(m, nil)
	checkStates(t, "Stay", states, e)
}

// P8.2
func TestIs(t *testing.T) {
	m := rooms()
	for _, e := range []End{
		{[]int{2}, [][]int{{0}}},
		{[]int{1, 4}, [][]int{{0}, {0}}},
		{[]int{1, 4}, [][]int{{0}, {1}}},
		{[]int{1, 4}, [][]int{{0}, {0, 1}}},
		{[]int{1, 3, 4}, [][]int{{0}, {1}, {2}}},
	} {
		if is, err := Is(m, e); !is || err != api.OK {
			t.Errorf("%v: %v %d", e, is, err)
		}
	}
	for _, e := range []End{
		{},
		{[]int{}, [][]int{}},
		{nil, [][]int{{0}}},
		{[]int{2}, nil},
		{[]int{2}, [][]int{nil}},
		{[]int{2}, [][]int{{}, {0}}},
		{[]int{2}, [][]int{{0}, {0}}},
		{[]int{2}, [][]int{{0, 0}}},
		{[]int{2}, [][]int{{1}}},
		{[]int{2}, [][]int{{-1}}},
		{[]int{2}, [][]int{{-1, 0}}},
		{[]int{2}, [][]int{{0, math.MaxInt}}},
		{[]int{2, 2}, [][]int{{0}, {0}}},
		{[]int{4, 1}, [][]int{{0}, {0}}},
		{[]int{1, 4}, [][]int{{0}, {1, 0}}},
		{[]int{1, 4}, [][]int{{0, 1}, {0}}},
		{[]int{1, 4}, [][]int{{0}, {0, 1, 2}}},
		{[]int{1, 3, 4}, [][]int{{0}, {1}, {0, 1}}},
		{[]int{1, 2, 4}, [][]int{{0}, {0}, {0}}},
		{[]int{5}, [][]int{{0}}},
		{[]int{-1}, [][]int{{0}}},
		{[]int{math.MinInt, 2}, [][]int{{0}, {0}}},
		{make([]int, 1<<16), make([][]int, 1<<16)},
		{[]int{2}, [][]int{make([]int, 1<<16)}},
	} {
		if is, err := Is(m, e); is || err != api.OK {
			t.Errorf("%v: %v %d", e, is, err)
		}
	}
}

// P8.1 to P8.3 and P8.6: all sets of states and choices
func TestAllEnds(t *testing.T) {
	r := rand.New(rand.NewSource(1))
	found := 0
	for range 200 {
		n := r.Intn(4) + 1
		m := sample(r, n, 3, 2, n)
		var all, inside []End
		l := subset(r, n)
		for _, e := range candidates(m) {
			want := isEndComponent(m, e)
			if is, err := Is(m, e); is != want || err != api.OK {
				t.Fatalf("%v %v: %v %d", m, e, is, err)
			}
			if !want {
				continue
			}
			all = append(all, e)
			if isSubset(e.States, l) {
				inside = append(inside, e)
			}
		}
		got, e := Maximal(m)
		checkEnds(t, "Maximal", got, e, maximal(all)...)
		checkUnique(t, got, all)
		some, e := Inside(m, l)
		checkEnds(t, "Inside", some, e, maximal(inside)...)
		found += len(all)
	}
	if found < 1000 {
		t.Errorf("only %d end components", found)
	}
}

// checkUnique checks that each end component is contained in exactly one of l, and that these are
// disjoint.
func checkUnique(t *testing.T, l, all []End) {
	t.Helper()
	for _, d := range all {
		count := 0
		for _, e := range l {
			if isPart(d, e) {
				count++
			}
		}
		if count != 1 {
			t.Fatalf("%v is part of %d among %v", d, count, l)
		}
	}
	seen := map[int]bool{}
	for _, e := range l {
		for _, s := range e.States {
			if seen[s] {
				t.Fatalf("%v", l)
			}
			seen[s] = true
		}
	}
}

// P8.4: all strategies
func TestStay(t *testing.T) {
	r := rand.New(rand.NewSource(2))
	for range 300 {
		n := r.Intn(5) + 1
		m := sample(r, n, 2, 2, n)
		l := subset(r, n)
		stays := map[int]bool{}
		for _, strategy := range strategies(m) {
			fixed, _ := model.Fix(m, strategy)
			for _, s := range l {
				reached, _ := graph.From(fixed, []int{s})
				if isSubset(reached, l) {
					stays[s] = true
				}
			}
		}
		want := slices.DeleteFunc(slices.Clone(l), func(s int) bool { return !stays[s] })
		got, e := Stay(m, l)
		checkStates(t, "Stay", got, e, want...)
	}
}

// models calls f for models of all sizes.
func models(f func(r *rand.Rand, m api.Model)) {
	r := rand.New(rand.NewSource(3))
	for range 200 {
		n := r.Intn(api.MaxStates) + 1
		f(r, sample(r, n, r.Intn(3)+1, r.Intn(3)+1, n))
		f(r, risky(r, n, r.Intn(6)+1, r.Intn(3)+1, r.Intn(4)+1))
	}
}

// P8.6 for great models: what Maximal returns are end components to which nothing can be added
func TestMaximal(t *testing.T) {
	models(func(r *rand.Rand, m api.Model) {
		l, e := Maximal(m)
		if e != api.OK || len(l) == 0 {
			t.Fatalf("%v: %v %d", m, l, e)
		}
		checkUnique(t, l, l)
		for i, end := range l {
			if is, _ := Is(m, end); !is || i > 0 && l[i-1].States[0] >= end.States[0] {
				t.Fatalf("%v: %v", m, l)
			}
			for j, s := range end.States {
				if !slices.Equal(end.Choices[j], staying(m.States[s], end.States)) {
					t.Fatalf("%v: %v", m, end)
				}
			}
		}
	})
}

// P8.7: the bottom components of a fixed model
func TestLimits(t *testing.T) {
	models(func(r *rand.Rand, m api.Model) {
		strategy := make([]int, len(m.States))
		for s, state := range m.States {
			strategy[s] = r.Intn(len(state.Choices))
		}
		fixed, _ := model.Fix(m, strategy)
		bottom, _ := graph.Bottom(fixed)
		l, _ := Maximal(m)
		for _, states := range bottom {
			e := End{States: states}
			for _, s := range states {
				e.Choices = append(e.Choices, []int{strategy[s]})
			}
			if is, _ := Is(m, e); !is {
				t.Fatalf("%v: %v", m, e)
			}
			checkUnique(t, l, []End{e})
		}
	})
}

// TestGreatest: the greatest models.
func TestGreatest(t *testing.T) {
	n := api.MaxStates
	var ring, ladder api.Model
	for s := range n {
		around := slices.Repeat([]api.Choice{choice(0, (s+1)%n)}, api.MaxChoices)
		ring.States = append(ring.States, api.State{Choices: around})
		// in the ladder, one state after another turns out to lead to the last one, which leads nowhere
		down := choice(0, s-1, s+1)
		switch s {
		case 0:
			down = choice(0, 0, 1)
		case n - 1:
			down = choice(0, s)
		}
		ladder.States = append(ladder.States, api.State{Choices: []api.Choice{down}})
	}
	want := End{States: numbers(n), Choices: slices.Repeat([][]int{numbers(api.MaxChoices)}, n)}
	l, e := Maximal(ring)
	checkEnds(t, "Maximal", l, e, want)
	l, e = Inside(ring, numbers(n)[1:])
	checkEnds(t, "Inside", l, e)
	m, number, e := Merge(ring)
	checkStates(t, "Merge", number, e, make([]int, n)...)
	if !model.Identical(m, api.Model{States: []api.State{{Choices: []api.Choice{choice(0, 0)}}}}) {
		t.Errorf("%v", m)
	}
	l, e = Maximal(ladder)
	checkEnds(t, "Maximal", l, e, End{[]int{n - 1}, [][]int{{0}}})
	states, e := Stay(ladder, numbers(n-1))
	checkStates(t, "Stay", states, e)
	m, number, e = Merge(ladder)
	checkStates(t, "Merge", number, e, numbers(n)...)
	if !model.Identical(m, ladder) {
		t.Errorf("%v", m)
	}
}

// notValid contains models that are not valid.
func notValid() []api.Model {
	edits := []func(m *api.Model){
		func(m *api.Model) { m.States = nil },
		func(m *api.Model) { m.States[0].Owner = 2 },
		func(m *api.Model) { m.States[0].Mark = -1 },
		func(m *api.Model) { m.States[1].Choices = nil },
		func(m *api.Model) { m.States[1].Choices[0].Branches = nil },
		func(m *api.Model) { m.States[1].Choices[0].Branches[0].To = 3 },
		func(m *api.Model) { m.States[1].Choices[0].Branches[0].To = -1 },
		func(m *api.Model) { m.States[1].Choices[0].Branches[0].Chance.Low = 0 },
		func(m *api.Model) { m.States = slices.Repeat(m.States[1:2], api.MaxStates+1) },
	}
	var out []api.Model
	for _, edit := range edits {
		m := read(dice)
		edit(&m)
		out = append(out, m)
	}
	return out
}

// notSets contains lists that are no sets of states of the game of dice.
func notSets() [][]int {
	return [][]int{{3}, {-1}, {0, 0}, {1, 0}, {0, 1, 2, 3}, {math.MinInt}, {math.MaxInt}, make([]int, 1<<16)}
}

// checkErrArg checks that the functions of a model and a set return ErrArg.
func checkErrArg(t *testing.T, m api.Model, l []int) {
	t.Helper()
	if x, e := Inside(m, l); e != api.ErrArg || len(x) != 0 {
		t.Errorf("%v %v: %v %d", m, l, x, e)
	}
	if x, e := Stay(m, l); e != api.ErrArg || len(x) != 0 {
		t.Errorf("%v %v: %v %d", m, l, x, e)
	}
}

func TestErrArg(t *testing.T) {
	for _, m := range notValid() {
		for _, l := range append(notSets(), nil, []int{0}) {
			checkErrArg(t, m, l)
		}
		if x, e := Maximal(m); e != api.ErrArg || len(x) != 0 {
			t.Errorf("%v: %v %d", m, x, e)
		}
		for _, end := range []End{{}, {[]int{1}, [][]int{{0}}}, {[]int{1, 0}, [][]int{{0}}}} {
			if is, e := Is(m, end); e != api.ErrArg || is {
				t.Errorf("%v %v: %v %d", m, end, is, e)
			}
		}
		if x, number, e := Merge(m); e != api.ErrArg || x.States != nil || len(number) != 0 {
			t.Errorf("%v: %v %v %d", m, x, number, e)
		}
	}
	for _, l := range notSets() {
		checkErrArg(t, read(dice), l)
	}
}

// TestEffects: no call modifies its arguments, no result shares memory with another one or with an
// argument, and equal arguments yield equal results.
func TestEffects(t *testing.T) {
	models(func(r *rand.Rand, m api.Model) {
		text, _ := model.Print(m)
		l := subset(r, len(m.States))
		set := slices.Clone(l)
		one, _ := Inside(m, l)
		two, _ := Inside(m, l)
		states, _ := Stay(m, l)
		merged, number, _ := Merge(m)
		for _, e := range one {
			if is, _ := Is(m, e); !is {
				t.Fatalf("%v: %v", m, e)
			}
		}
		for i := range one {
			scribble(one[i].States)
			for j := range one[i].Choices {
				scribble(one[i].Choices[j])
			}
			// what remains shares no memory with what was overwritten
			if rest, e := Inside(m, l); e != api.OK || !slices.EqualFunc(rest[i+1:], one[i+1:], isEqual) {
				t.Fatalf("%v: %v %v", m, rest, one)
			}
		}
		scribble(states)
		scribble(number)
		for _, state := range merged.States {
			for _, c := range state.Choices {
				clear(c.Branches[:cap(c.Branches)])
			}
			clear(state.Choices)
		}
		again, e := Inside(m, l)
		checkEnds(t, "Inside", again, e, two...)
		if printed, _ := model.Print(m); printed != text || !slices.Equal(l, set) {
			t.Fatalf("%v %v", printed, l)
		}
	})
}

// scribble overwrites a list, and what may lie behind it.
func scribble(l []int) {
	l = l[:cap(l)]
	for i := range l {
		l[i] = -1
	}
}
