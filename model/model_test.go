package model

import (
	"dicebox/api"
	"math"
	"math/rand"
	"reflect"
	"slices"
	"testing"
)

// of returns the number top / low, which is valid as it stands.
func of(top, low int) api.Num { return api.Num{Top: top, Low: low} }

// to returns the choice with the reward 0 that leads to the states with the chances n / low.
func to(low int, parts ...[2]int) api.Choice {
	out := api.Choice{Reward: of(0, 1)}
	for _, part := range parts {
		divisor := low
		for rest := part[1]; rest != 0; {
			divisor, rest = rest, divisor%rest
		}
		out.Branches = append(out.Branches, api.Branch{To: part[0], Chance: of(part[1]/divisor, low/divisor)})
	}
	return out
}

// dice returns the game of dice of the document.
func dice() api.Model {
	stop := to(3, [2]int{1, 2}, [2]int{2, 1})
	again := to(4, [2]int{0, 2}, [2]int{1, 1}, [2]int{2, 1})
	return api.Model{States: []api.State{
		{Choices: []api.Choice{stop, again}},
		{Choices: []api.Choice{to(1, [2]int{1, 1})}},
		{Mark: 1, Choices: []api.Choice{to(1, [2]int{2, 1})}},
	}}
}

// sample returns a valid model with n states.
func sample(r *rand.Rand, n, choices, branches int) api.Model {
	var out api.Model
	for range n {
		state := api.State{Owner: r.Intn(2), Mark: r.Intn(64)}
		for range r.Intn(choices) + 1 {
			state.Choices = append(state.Choices, sampleChoice(r, n, branches))
		}
		out.States = append(out.States, state)
	}
	return out
}

func sampleChoice(r *rand.Rand, n, branches int) api.Choice {
	states := r.Perm(n)[:r.Intn(min(n, branches))+1]
	slices.Sort(states)
	var parts [][2]int
	sum := 0
	for _, state := range states {
		part := r.Intn(5) + 1
		sum += part
		parts = append(parts, [2]int{state, part})
	}
	out := to(sum, parts...)
	out.Reward = of(2*r.Intn(200)-199, []int{1, 2, 4, api.MaxNum}[r.Intn(4)])
	return out
}

// greatest returns a model with as many states, choices and branches as possible.
func greatest(chance api.Num) api.Model {
	var out api.Model
	for range api.MaxStates {
		var state api.State
		for range api.MaxChoices {
			choice := api.Choice{Reward: of(0, 1)}
			for i := range api.MaxBranches {
				choice.Branches = append(choice.Branches, api.Branch{To: i, Chance: chance})
			}
			state.Choices = append(state.Choices, choice)
		}
		out.States = append(out.States, state)
	}
	return out
}

// clone returns a copy of m.
func clone(m api.Model) api.Model {
	var out api.Model
	for _, state := range m.States {
		choices := []api.Choice(nil)
		for _, choice := range state.Choices {
			choice.Branches = append([]api.Branch(nil), choice.Branches...)
			choices = append(choices, choice)
		}
		state.Choices = choices
		out.States = append(out.States, state)
	}
	return out
}

// edits returns functions that make a model with three or more states invalid, each in one part.
func edits() []func(m *api.Model) {
	branches := func(edit func(l []api.Branch) []api.Branch) func(m *api.Model) {
		return func(m *api.Model) { m.States[0].Choices[0].Branches = edit(m.States[0].Choices[0].Branches) }
	}
	return []func(m *api.Model){
		func(m *api.Model) { m.States = nil },
		func(m *api.Model) { m.States = append(greatest(of(1, 8)).States, m.States[0]) },
		func(m *api.Model) { m.States[1].Owner = 2 },
		func(m *api.Model) { m.States[1].Owner = -1 },
		func(m *api.Model) { m.States[2].Mark = -1 },
		func(m *api.Model) { m.States[2].Mark = 64 },
		func(m *api.Model) { m.States[1].Choices = nil },
		func(m *api.Model) { m.States[1].Choices = slices.Repeat(m.States[1].Choices[:1], 9) },
		func(m *api.Model) { m.States[1].Choices[0].Reward = of(2, 2) },
		func(m *api.Model) { m.States[1].Choices[0].Reward = of(math.MinInt, 1) },
		func(m *api.Model) { m.States[1].Choices[0].Reward = api.Num{} },
		func(m *api.Model) { m.States[1].Choices[0].Reward = of(api.MaxNum+1, 1) },
		branches(func(l []api.Branch) []api.Branch { return nil }),
		branches(func(l []api.Branch) []api.Branch { return l[:len(l)-1] }),
		branches(func(l []api.Branch) []api.Branch { return append(l, api.Branch{To: 2, Chance: of(1, 2)}) }),
		branches(func(l []api.Branch) []api.Branch { return []api.Branch{{To: 3, Chance: of(1, 1)}} }),
		branches(func(l []api.Branch) []api.Branch { return []api.Branch{{To: -1, Chance: of(1, 1)}} }),
		branches(func(l []api.Branch) []api.Branch {
			return []api.Branch{{To: 1, Chance: of(1, 2)}, {To: 1, Chance: of(1, 2)}}
		}),
		branches(func(l []api.Branch) []api.Branch {
			return []api.Branch{{To: 1, Chance: of(1, 2)}, {To: 0, Chance: of(1, 2)}}
		}),
		branches(func(l []api.Branch) []api.Branch {
			return []api.Branch{{To: 0, Chance: of(0, 1)}, {To: 1, Chance: of(1, 1)}}
		}),
		branches(func(l []api.Branch) []api.Branch {
			return []api.Branch{{To: 0, Chance: of(-1, 1)}, {To: 1, Chance: of(2, 1)}}
		}),
		branches(func(l []api.Branch) []api.Branch {
			return []api.Branch{{To: 0, Chance: of(2, 4)}, {To: 1, Chance: of(1, 2)}}
		}),
		branches(func(l []api.Branch) []api.Branch { return []api.Branch{{To: 0, Chance: of(2, 1)}} }),
		branches(func(l []api.Branch) []api.Branch { return []api.Branch{{To: 0, Chance: of(api.MaxNum-1, api.MaxNum)}} }),
		branches(func(l []api.Branch) []api.Branch {
			return []api.Branch{{To: 0, Chance: of(1, api.MaxNum)}, {To: 1, Chance: of(1, api.MaxNum-1)}, {To: 2, Chance: of(1, api.MaxNum-3)}}
		}),
	}
}

// notValid contains models that break each part of the definition.
func notValid() []api.Model {
	var out []api.Model
	for _, edit := range edits() {
		m := dice()
		edit(&m)
		out = append(out, m)
	}
	nine := greatest(of(1, 8))
	nine.States[39].Choices[7].Branches[7].Chance = of(1, 16)
	nine.States[39].Choices[7].Branches = append(nine.States[39].Choices[7].Branches, api.Branch{To: 8, Chance: of(1, 16)})
	return append(out, nine)
}

// valid contains models at the limits of the definition.
func valid() []api.Model {
	single := api.Model{States: []api.State{{Owner: 1, Mark: 63, Choices: []api.Choice{to(1, [2]int{0, 1})}}}}
	// sums of the first chances exceed the limits
	long := dice()
	a, b := of(1, api.MaxNum-1), of(1, 1<<30)
	long.States[0].Choices[0].Branches = []api.Branch{{To: 0, Chance: a}, {To: 1, Chance: of(api.MaxNum-2, api.MaxNum-1)}}
	long.States[0].Choices[1].Branches = []api.Branch{{To: 0, Chance: b}, {To: 2, Chance: of(1<<30-1, 1<<30)}}
	wide := api.Model{}
	for range 4 {
		parts := []api.Branch{{To: 0, Chance: of(1, 2*1000000007)}, {To: 1, Chance: of(1, 2*1000000009)}, {To: 2, Chance: of(500000003, 1000000007)}, {To: 3, Chance: of(500000004, 1000000009)}}
		wide.States = append(wide.States, api.State{Choices: []api.Choice{{Reward: of(-api.MaxNum, 1), Branches: parts}}})
	}
	return []api.Model{single, long, wide, greatest(of(1, 8)), dice()}
}

// P4.1
func TestValid(t *testing.T) {
	for i, m := range valid() {
		if !Valid(m) {
			t.Errorf("model %d is valid", i)
		}
	}
	for i, m := range notValid() {
		if Valid(m) {
			t.Errorf("model %d is not valid: %v", i, m)
		}
	}
	huge := api.Model{States: make([]api.State, 1<<20)}
	if Valid(huge) || Valid(api.Model{}) {
		t.Error("number of states")
	}
}

// TestNotValid: all functions refuse models that are not valid before all else.
func TestNotValid(t *testing.T) {
	for _, m := range notValid() {
		for _, l := range [][]int{nil, {0, 0, 0}, {0, 1, 2}, {-1}} {
			checkRefused(t, m, l)
		}
	}
}

func checkRefused(t *testing.T, m api.Model, l []int) {
	t.Helper()
	for name, f := range map[string]func(api.Model) (bool, api.Errno){
		"Chain": Chain, "Plain": Plain,
		"ValidSet":      func(m api.Model) (bool, api.Errno) { return ValidSet(m, l) },
		"ValidStrategy": func(m api.Model) (bool, api.Errno) { return ValidStrategy(m, l) },
		"Count":         func(m api.Model) (bool, api.Errno) { n, e := Count(m); return n != 0, e },
		"Nth":           func(m api.Model) (bool, api.Errno) { s, e := Nth(m, -len(l)); return len(s) > 0, e },
		"Print":         func(m api.Model) (bool, api.Errno) { s, e := Print(m); return s != "", e },
	} {
		if r, e := f(m); r || e != api.ErrArg {
			t.Errorf("%s %v %v: %t %d", name, m, l, r, e)
		}
	}
	for name, f := range map[string]func(api.Model) (api.Model, api.Errno){
		"Fix":    func(m api.Model) (api.Model, api.Errno) { return Fix(m, l) },
		"FixFor": func(m api.Model) (api.Model, api.Errno) { return FixFor(m, l, 2) },
		"Rename": func(m api.Model) (api.Model, api.Errno) { return Rename(m, l) },
		"Goal":   func(m api.Model) (api.Model, api.Errno) { return Goal(m, l) },
	} {
		if r, e := f(m); r.States != nil || e != api.ErrArg {
			t.Errorf("%s %v %v: %v %d", name, m, l, r, e)
		}
	}
}

func TestChain(t *testing.T) {
	fixed := dice()
	fixed.States[0].Choices = fixed.States[0].Choices[1:]
	last := dice()
	last.States[0].Choices = last.States[0].Choices[1:]
	last.States[2].Choices = append(last.States[2].Choices, to(1, [2]int{0, 1}))
	for i, m := range []api.Model{fixed, dice(), last, greatest(of(1, 8))} {
		if is, e := Chain(m); is != (i == 0) || e != api.OK {
			t.Errorf("model %d: %t %d", i, is, e)
		}
	}
}

func TestPlain(t *testing.T) {
	cases := []struct {
		edit func(m *api.Model)
		want bool
	}{
		{func(m *api.Model) {}, true},
		{func(m *api.Model) { m.States[2].Choices[0].Reward = of(100, 1) }, true},
		{func(m *api.Model) { m.States[2].Choices[0].Reward = of(-100, 1) }, true},
		{func(m *api.Model) { m.States[2].Choices[0].Reward = of(101, 1) }, false},
		{func(m *api.Model) { m.States[2].Choices[0].Reward = of(-101, 1) }, false},
		{func(m *api.Model) { m.States[0].Choices[1].Reward = of(1, 2) }, false},
		{func(m *api.Model) { m.States[0].Choices[1] = to(12, [2]int{0, 1}, [2]int{1, 11}) }, true},
		{func(m *api.Model) { m.States[0].Choices[1] = to(6, [2]int{0, 1}, [2]int{1, 5}) }, true},
		{func(m *api.Model) { m.States[0].Choices[1] = to(8, [2]int{0, 1}, [2]int{1, 7}) }, false},
		{func(m *api.Model) { m.States[0].Choices[1] = to(24, [2]int{0, 1}, [2]int{1, 23}) }, false},
		{func(m *api.Model) { m.States[0].Choices[1] = to(5, [2]int{0, 1}, [2]int{1, 4}) }, false},
		{func(m *api.Model) { m.States = append(m.States, slices.Repeat(m.States[1:2], 5)...) }, true},
		{func(m *api.Model) { m.States = append(m.States, slices.Repeat(m.States[1:2], 6)...) }, false},
		{func(m *api.Model) { m.States[1].Owner, m.States[1].Mark = 1, 63 }, true},
	}
	for i, c := range cases {
		m := dice()
		c.edit(&m)
		if is, e := Plain(m); is != c.want || e != api.OK {
			t.Errorf("case %d: %t %d", i, is, e)
		}
	}
}

// P4.2
func TestSetsAndStrategies(t *testing.T) {
	m := dice()
	for _, c := range []struct {
		l             []int
		set, strategy bool
	}{
		{nil, true, false}, {[]int{}, true, false}, {[]int{0}, true, false}, {[]int{0, 1, 2}, true, false}, {[]int{1, 0}, false, false},
		{[]int{0, 2}, true, false}, {[]int{0, 0}, false, false}, {[]int{-1}, false, false}, {[]int{3}, false, false}, {[]int{math.MinInt, math.MaxInt}, false, false},
		{[]int{0, 0, 0}, false, true}, {[]int{1, 0, 0}, false, true}, {[]int{2, 0, 0}, false, false}, {[]int{-1, 0, 0}, false, false},
		{[]int{1, 0, 1}, false, false}, {[]int{1, 0, 0, 0}, false, false}, {[]int{0, 1, 2, 3}, false, false},
	} {
		if is, e := ValidSet(m, c.l); is != c.set || e != api.OK {
			t.Errorf("ValidSet %v: %t %d", c.l, is, e)
		}
		if is, e := ValidStrategy(m, c.l); is != c.strategy || e != api.OK {
			t.Errorf("ValidStrategy %v: %t %d", c.l, is, e)
		}
	}
}

// badStrategies are not valid for the game of dice.
func badStrategies() [][]int {
	return [][]int{nil, {1, 0}, {2, 0, 0}, {1, -1, 0}, {1, 0, 0, 0}}
}

// P4.3
func TestFix(t *testing.T) {
	for _, s := range badStrategies() {
		if m, e := Fix(dice(), s); m.States != nil || e != api.ErrArg {
			t.Errorf("Fix %v: %v %d", s, m, e)
		}
		for player := -1; player < 3; player++ {
			if m, e := FixFor(dice(), s, player); m.States != nil || e != api.ErrArg {
				t.Errorf("FixFor %v: %v %d", s, m, e)
			}
		}
	}
	for _, player := range []int{-1, 2, math.MinInt, math.MaxInt} {
		if m, e := FixFor(dice(), []int{1, 0, 0}, player); m.States != nil || e != api.ErrRange {
			t.Errorf("player %d: %v %d", player, m, e)
		}
	}
	r := rand.New(rand.NewSource(1))
	for range 500 {
		m := sample(r, r.Intn(8)+1, 4, 4)
		before := clone(m)
		s := make([]int, len(m.States))
		for i, state := range m.States {
			s[i] = r.Intn(len(state.Choices))
		}
		for player := range 3 {
			want := clone(m)
			for i, state := range want.States {
				if player == 2 || state.Owner == player {
					want.States[i].Choices = state.Choices[s[i] : s[i]+1]
				}
			}
			got, e := FixFor(m, s, player)
			if player == 2 {
				got, e = Fix(m, s)
			}
			checkModel(t, got, e, want)
			destroy(got)
			checkModel(t, m, api.OK, before)
		}
	}
}

func checkModel(t *testing.T, m api.Model, e api.Errno, want api.Model) {
	t.Helper()
	if e != api.OK || !reflect.DeepEqual(clone(m), clone(want)) {
		t.Fatalf("%v, error %d instead of %v", m, e, want)
	}
}

// destroy changes all memory of m.
func destroy(m api.Model) {
	for i := range m.States {
		for j := range m.States[i].Choices {
			clear(m.States[i].Choices[j].Branches)
		}
		clear(m.States[i].Choices)
	}
	clear(m.States)
}

// P4.9
func TestFixBoth(t *testing.T) {
	r := rand.New(rand.NewSource(2))
	for range 300 {
		m := sample(r, r.Intn(8)+1, 4, 4)
		n, e := Count(m)
		if e != api.OK {
			t.Fatal(e)
		}
		s, _ := Nth(m, r.Intn(n))
		want, _ := Fix(m, s)
		if is, e := Chain(want); !is || e != api.OK {
			t.Fatalf("%v is no chain", want)
		}
		for player := range 2 {
			half, e := FixFor(m, s, player)
			if e != api.OK {
				t.Fatal(e)
			}
			rest := slices.Clone(s)
			for i, state := range m.States {
				if state.Owner == player {
					rest[i] = 0
				}
			}
			got, e := FixFor(half, rest, 1-player)
			checkModel(t, got, e, want)
			got, e = Fix(half, rest)
			checkModel(t, got, e, want)
		}
	}
}

// withChoices returns a model whose states have these numbers of choices.
func withChoices(counts ...int) api.Model {
	var out api.Model
	for i, n := range counts {
		out.States = append(out.States, api.State{Choices: slices.Repeat([]api.Choice{to(1, [2]int{i, 1})}, n)})
	}
	return out
}

// P4.4
func TestCount(t *testing.T) {
	for _, c := range []struct {
		m    api.Model
		want int
		e    api.Errno
	}{
		{dice(), 2, api.OK}, {withChoices(1), 1, api.OK}, {withChoices(3, 5, 2), 30, api.OK}, {withChoices(slices.Repeat([]int{8}, 20)...), 1 << 60, api.OK},
		{withChoices(slices.Repeat([]int{8}, 21)...), 0, api.ErrFull}, {withChoices(append(slices.Repeat([]int{8}, 20), 1, 2)...), 0, api.ErrFull},
		{withChoices(append(slices.Repeat([]int{2}, 59), 3)[20:]...), 3 << 39, api.OK}, {withChoices(append(slices.Repeat([]int{8}, 19), 5, 2)...), 0, api.ErrFull},
		{withChoices(slices.Repeat([]int{8}, 40)...), 0, api.ErrFull}, {withChoices(append(slices.Repeat([]int{8}, 19), 7, 1)...), 7 << 57, api.OK},
	} {
		if n, e := Count(c.m); n != c.want || e != c.e {
			t.Errorf("%d states: %d %d", len(c.m.States), n, e)
		}
	}
}

func TestNth(t *testing.T) {
	m := withChoices(3, 1, 2, 4)
	var before []int
	for k := range 24 {
		s, e := Nth(m, k)
		if e != api.OK || !isStrategy(m, s) || k > 0 && slices.Compare(before, s) >= 0 {
			t.Errorf("%d: %v %d after %v", k, s, e, before)
		}
		before = s
	}
	all := withChoices(slices.Repeat([]int{8}, 40)...)
	few := withChoices(slices.Repeat([]int{8}, 21)...)
	digits := append(make([]int, 19), slices.Repeat([]int{7}, 21)...)
	for _, c := range []struct {
		m    api.Model
		k    int
		want []int
	}{
		{m, 24, nil}, {m, -1, nil}, {m, math.MinInt, nil}, {m, math.MaxInt, nil}, {withChoices(1), 0, []int{0}}, {withChoices(1), 1, nil},
		{all, math.MaxInt, digits}, {all, 0, make([]int, 40)}, {all, -1, nil}, {few, math.MaxInt, slices.Repeat([]int{7}, 21)},
		{withChoices(append(slices.Repeat([]int{8}, 20), 5)...), math.MaxInt, nil},
		{withChoices(append(slices.Repeat([]int{8}, 20), 5)...), 5<<60 - 1, append(slices.Repeat([]int{7}, 20), 4)},
		{withChoices(append(slices.Repeat([]int{8}, 20), 5)...), 5 << 60, nil},
	} {
		want := api.OK
		if c.want == nil {
			want = api.ErrRange
		}
		if s, e := Nth(c.m, c.k); !slices.Equal(s, c.want) || e != want {
			t.Errorf("%d states, %d: %v %d", len(c.m.States), c.k, s, e)
		}
	}
}

// P4.5, P4.11
func TestRename(t *testing.T) {
	for _, order := range [][]int{nil, {0, 1}, {0, 1, 1}, {0, 0, 1}, {2, 2, 1}, {0, 1, 3}, {0, 1, -1}, {0, 1, 2, 3}, {0, 1, 2, 2}, {math.MinInt, 1, 2}} {
		if m, e := Rename(dice(), order); m.States != nil || e != api.ErrRange {
			t.Errorf("%v: %v %d", order, m, e)
		}
	}
	got, e := Rename(dice(), []int{2, 0, 1})
	want := dice()
	want.States = []api.State{want.States[2], want.States[0], want.States[1]}
	want.States[0].Choices = []api.Choice{to(1, [2]int{0, 1})}
	want.States[1].Choices = []api.Choice{to(3, [2]int{0, 1}, [2]int{2, 2}), to(4, [2]int{0, 1}, [2]int{1, 2}, [2]int{2, 1})}
	want.States[2].Choices = []api.Choice{to(1, [2]int{2, 1})}
	checkModel(t, got, e, want)
	r := rand.New(rand.NewSource(3))
	for range 500 {
		m := sample(r, r.Intn(12)+1, 4, 8)
		before := clone(m)
		order := r.Perm(len(m.States))
		back := make([]int, len(order))
		for i, state := range order {
			back[state] = i
		}
		renamed, e := Rename(m, order)
		if e != api.OK || !Valid(renamed) {
			t.Fatalf("%v %v: %v %d", m, order, renamed, e)
		}
		again, e := Rename(renamed, back)
		checkModel(t, again, e, m)
		destroy(renamed)
		checkModel(t, m, api.OK, before)
	}
}

// P4.6
func TestGoal(t *testing.T) {
	for _, goal := range [][]int{{2, 1}, {1, 1}, {3}, {-1}} {
		if m, e := Goal(dice(), goal); m.States != nil || e != api.ErrArg {
			t.Errorf("%v: %v %d", goal, m, e)
		}
	}
	r := rand.New(rand.NewSource(4))
	for range 500 {
		m := sample(r, r.Intn(8)+1, 4, 4)
		before := clone(m)
		var goal []int
		want := clone(m)
		for i := range m.States {
			if r.Intn(2) == 0 {
				goal = append(goal, i)
				want.States[i].Choices = []api.Choice{to(1, [2]int{i, 1})}
			}
		}
		got, e := Goal(m, goal)
		checkModel(t, got, e, want)
		destroy(got)
		checkModel(t, m, api.OK, before)
	}
}

// P4.7
func TestIdentical(t *testing.T) {
	bad := notValid()
	for i, a := range bad {
		if !Identical(a, clone(a)) || Identical(a, dice()) {
			t.Errorf("model %d: %v", i, a)
		}
	}
	for _, edit := range []func(m *api.Model){
		func(m *api.Model) { m.States = m.States[:2] },
		func(m *api.Model) { m.States[2].Owner = 1 },
		func(m *api.Model) { m.States[2].Mark = 2 },
		func(m *api.Model) { m.States[0].Choices = m.States[0].Choices[:1] },
		func(m *api.Model) { m.States[0].Choices[1].Reward = of(0, 2) },
		func(m *api.Model) { m.States[0].Choices[1].Branches[2].To = 3 },
		func(m *api.Model) { m.States[0].Choices[1].Branches[2].Chance = of(2, 8) },
		func(m *api.Model) { m.States[0].Choices[1].Branches = m.States[0].Choices[1].Branches[:2] },
	} {
		m := dice()
		edit(&m)
		if Identical(m, dice()) || Identical(dice(), m) || !Identical(m, m) {
			t.Errorf("%v", m)
		}
	}
	empty := []api.Model{{}, {States: []api.State{}}, {States: []api.State{{}}}, {States: []api.State{{Choices: []api.Choice{}}}},
		{States: []api.State{{Choices: []api.Choice{{}}}}}, {States: []api.State{{Choices: []api.Choice{{Branches: []api.Branch{}}}}}}}
	for i, a := range empty {
		for j, b := range empty {
			if Identical(a, b) != (i/2 == j/2) {
				t.Errorf("%v and %v", a, b)
			}
		}
	}
}
