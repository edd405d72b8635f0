package duel

import (
	"dicebox/api"
	"dicebox/exact"
	"dicebox/reach"
	"math/rand"
	"slices"
	"testing"
)

// token is the game of the document: state 2 is the goal and state 3 the dead end.
const token = "model 4\nstate 0 0\nchoice 0: 1 1\nchoice 0: 2 1/3, 3 2/3\nstate 1 0\nchoice 0: 2 1/2, 3 1/2\nchoice 0: 0 1\nstate 0 0\nchoice 0: 2 1\nstate 1 0\nchoice 0: 3 1\n"

func checkNumbers(t *testing.T, name string, got []api.Num, e api.Errno, want ...api.Num) {
	t.Helper()
	if e != api.OK || !slices.Equal(got, want) {
		t.Errorf("%s: %v %d instead of %v", name, got, e, want)
	}
}

// checkExact checks a result against exact numbers, and reports whether they are valid.
func checkExact(t *testing.T, name string, got []api.Num, e api.Errno, x []exact.Rat) bool {
	t.Helper()
	want, full := exact.Nums(x)
	if e != full || !slices.Equal(got, want) {
		t.Fatalf("%s: %v %d instead of %v %d", name, got, e, want, full)
	}
	return e == api.OK
}

// P10.1 to P10.5
func TestExample(t *testing.T) {
	m, goal := read(token), []int{2}
	zero, one, third, half := ratio(0, 1), ratio(1, 1), ratio(1, 3), ratio(1, 2)
	x, s, e := Best(m, goal)
	checkNumbers(t, "Best", x, e, third, third, one, zero)
	if !slices.Equal(s, []int{1, 1, 0, 0}) {
		t.Errorf("%v", s)
	}
	p, e := Prove(m, goal)
	checkNumbers(t, "Prove", p.Value, e, third, third, one, zero)
	if !slices.Equal(p.Low, []int{1, 2, 0, 0}) || !slices.Equal(p.High, []int{1, 2, 0, 0}) || !slices.Equal(p.Pick, s) {
		t.Errorf("%v", p)
	}
	if is, e := Check(m, goal, p); !is || e != api.OK {
		t.Errorf("%v %d", is, e)
	}
	for _, c := range []struct {
		s, both      []int
		player       int
		first, other api.Num
		optimal      bool
	}{
		{[]int{1, 0, 0, 0}, []int{1, 1, 0, 0}, 0, third, third, false},
		{[]int{0, 0, 0, 0}, []int{0, 1, 0, 0}, 0, zero, zero, false},
		{[]int{1, 1, 0, 0}, []int{1, 1, 0, 0}, 1, third, third, true},
		{[]int{1, 0, 0, 0}, []int{0, 0, 0, 0}, 1, half, half, false},
		{[]int{0, 1, 0, 0}, []int{1, 1, 0, 0}, 1, third, third, false},
	} {
		x, s, e := Against(m, goal, c.s, c.player)
		checkNumbers(t, "Against", x, e, c.first, c.other, one, zero)
		if !slices.Equal(s, c.both) {
			t.Errorf("%v instead of %v", s, c.both)
		}
		if is, e := Optimal(m, goal, c.s); is != c.optimal || e != api.OK {
			t.Errorf("%v: %v %d", c.s, is, e)
		}
	}
}

// P10.1, P10.2, P10.7, P4: all strategies of both players
func TestAllStrategies(t *testing.T) {
	full, proper := 0, 0
	samples(1200, func(r *rand.Rand, m api.Model, goal []int, plain bool) {
		want := values(m, goal, 0)
		if !equal(want, values(m, goal, 1)) {
			t.Fatal("the oracle is wrong")
		}
		x, s, e := Best(m, goal)
		p, f := Prove(m, goal)
		if !checkExact(t, "Best", x, e, want) {
			full++
			if plain || f != e || s != nil || len(p.Value)+len(p.Pick)+len(p.Low)+len(p.High) != 0 {
				t.Fatalf("%v %v: %v %v %d", m, goal, s, p, f)
			}
			return
		}
		for player := range 2 {
			if !equal(against(m, goal, s, player), want) {
				t.Fatalf("%v %v: %v is not optimal for %d", m, goal, s, player)
			}
		}
		checkExact(t, "Prove", p.Value, f, want)
		if is, e := Check(m, goal, p); !is || e != api.OK || !isProof(m, goal, p) {
			t.Fatalf("%v %v: %v %v %d", m, goal, p, is, e)
		}
		if slices.ContainsFunc(x, func(a api.Num) bool { return a.Low > 1 }) {
			proper++
		}
	})
	if full < 20 || proper < 100 {
		t.Errorf("%d values were not valid, %d neither 0 nor 1", full, proper)
	}
}

// P10.4 to P10.6
func TestAgainst(t *testing.T) {
	seen := map[bool]int{}
	samples(400, func(r *rand.Rand, m api.Model, goal []int, plain bool) {
		want := values(m, goal, 0)
		for range 5 {
			s := make([]int, len(m.States))
			for i, state := range m.States {
				s[i] = r.Intn(len(state.Choices))
			}
			optimal := true
			for player := range 2 {
				bound := against(m, goal, s, player)
				x, both, e := Against(m, goal, s, player)
				optimal = optimal && equal(bound, want)
				if !checkExact(t, "Against", x, e, bound) {
					if plain || both != nil {
						t.Fatalf("%v %v %v: %v", m, goal, s, both)
					}
					continue
				}
				y, f := reach.Of(m, goal, both)
				checkExact(t, "Of", y, f, bound)
				for i, state := range m.States {
					if state.Owner == player && both[i] != s[i] {
						t.Fatalf("%v %v %v: %v", m, goal, s, both)
					}
					if better(player, bound[i], want[i]) {
						t.Fatalf("%v %v: %v guarantees %v", m, goal, s, x)
					}
				}
			}
			if is, e := Optimal(m, goal, s); is != optimal || e != api.OK {
				t.Fatalf("%v %v %v: %v %d instead of %v", m, goal, s, is, e, optimal)
			}
			seen[optimal]++
		}
	})
	if seen[true] < 100 || seen[false] < 100 {
		t.Errorf("%v", seen)
	}
}

// P10.5: an optimal strategy is found to be optimal although its numbers are not valid
func TestLongNumbers(t *testing.T) {
	const a, b = 1<<60 - 93, 1<<60 - 107
	m := api.Model{States: []api.State{
		{Owner: 0, Choices: []api.Choice{branch(a, map[int]int{1: a / 2, 3: a - a/2}), branch(1, map[int]int{3: 1})}},
		{Owner: 1, Choices: []api.Choice{branch(b, map[int]int{2: b / 2, 3: b - b/2}), branch(1, map[int]int{2: 1})}},
		{Choices: []api.Choice{branch(1, map[int]int{2: 1})}},
		{Choices: []api.Choice{branch(1, map[int]int{3: 1})}},
	}}
	goal := []int{2}
	for choice := range 4 {
		s := []int{choice / 2, choice % 2, 0, 0}
		if is, e := Optimal(m, goal, s); is != (choice == 0) || e != api.OK {
			t.Errorf("%v: %v %d", s, is, e)
		}
	}
	if x, s, e := Best(m, goal); e != api.ErrFull || len(x)+len(s) != 0 {
		t.Errorf("%v %v %d", x, s, e)
	}
	if p, e := Prove(m, goal); e != api.ErrFull || len(p.Value)+len(p.Pick)+len(p.Low)+len(p.High) != 0 {
		t.Errorf("%v %d", p, e)
	}
	if x, s, e := Against(m, goal, []int{0, 0, 0, 0}, 0); e != api.ErrFull || len(x)+len(s) != 0 {
		t.Errorf("%v %v %d", x, s, e)
	}
	x, _, e := Against(m, goal, []int{0, 1, 0, 0}, 1)
	checkNumbers(t, "Against", x, e, ratio(a/2, a), ratio(1, 1), ratio(1, 1), ratio(0, 1))
	// player 0 had to throw twice, but has a better choice
	m.States[0].Choices[1] = branch(2, map[int]int{2: 1, 3: 1})
	x, s, e := Best(m, goal)
	checkNumbers(t, "Best", x, e, ratio(1, 2), ratio(b/2, b), ratio(1, 1), ratio(0, 1))
	if !slices.Equal(s, []int{1, 0, 0, 0}) {
		t.Errorf("%v", s)
	}
}

// P10.8
func TestOnePlayer(t *testing.T) {
	samples(400, func(r *rand.Rand, m api.Model, goal []int, plain bool) {
		for player := range 2 {
			for i := range m.States {
				m.States[i].Owner = player
			}
			x, _, e := Best(m, goal)
			want, _, f := reach.Best(m, goal, player == 0)
			if e != f || !slices.Equal(x, want) {
				t.Fatalf("%v %v %d: %v %d instead of %v %d", m, goal, player, x, e, want, f)
			}
		}
	})
}

// P10.9
func TestExchange(t *testing.T) {
	r := rand.New(rand.NewSource(1))
	for range 200 {
		n := r.Intn(10) + 2
		var m, exchanged api.Model
		for s := range n {
			state := api.State{Owner: r.Intn(2), Choices: []api.Choice{branch(1, map[int]int{s: 1})}}
			if s < n-2 {
				state.Choices = nil
				for range r.Intn(3) + 1 {
					l := []int{n - 2, n - 1}
					for to := s + 1; to < n-2; to++ {
						l = append(l, to)
					}
					state.Choices = append(state.Choices, sampleChoice(r, l, 12))
				}
			}
			m.States = append(m.States, state)
			state.Owner = 1 - state.Owner
			exchanged.States = append(exchanged.States, state)
		}
		x, _, e := Best(m, []int{n - 2})
		y, _, f := Best(exchanged, []int{n - 1})
		if e != api.OK || f != api.OK {
			t.Fatalf("%d %d", e, f)
		}
		for i, a := range x {
			if exact.Of(a).Add(exact.Of(y[i])).Cmp(exact.Of(ratio(1, 1))) != 0 {
				t.Fatalf("%v: %v and %v", m, x, y)
			}
		}
	}
}

// P10.1: games in which a player may pass on again and again, and all means look equal
func TestCycles(t *testing.T) {
	zero, one, half := ratio(0, 1), ratio(1, 1), ratio(1, 2)
	end := "state 0 0\nchoice 0: 2 1\nstate 0 0\nchoice 0: 3 1\n"
	more := "state 0 0\nchoice 0: 5 1\nstate 0 0\nchoice 0: 2 1/2, 3 1/2\n"
	for _, c := range []struct {
		text string
		want []api.Num
	}{
		// both wait, or throw: player 0 has to throw
		{"model 4\nstate 0 0\nchoice 0: 1 1\nchoice 0: 2 1/2, 3 1/2\nstate 1 0\nchoice 0: 0 1\nchoice 0: 2 1/2, 3 1/2\n", []api.Num{half, half, one, zero}},
		{"model 4\nstate 1 0\nchoice 0: 1 1\nchoice 0: 2 1/2, 3 1/2\nstate 1 0\nchoice 0: 0 1\nchoice 0: 2 1/2, 3 1/2\n", []api.Num{zero, zero, one, zero}},
		{"model 4\nstate 0 0\nchoice 0: 0 1\nchoice 0: 2 1/2, 3 1/2\nstate 1 0\nchoice 0: 2 1\nchoice 0: 0 1\n", []api.Num{half, half, one, zero}},
		// whoever leaves loses: player 0 reaches the goal only through player 1, who never leaves
		{"model 4\nstate 0 0\nchoice 0: 1 1\nchoice 0: 3 1\nstate 1 0\nchoice 0: 0 1\nchoice 0: 2 1\n", []api.Num{zero, zero, one, zero}},
		{"model 4\nstate 0 0\nchoice 0: 1 1\nchoice 0: 0 1\nstate 1 0\nchoice 0: 0 1/2, 2 1/2\nchoice 0: 2 1\n", []api.Num{one, one, one, zero}},
		// what player 1 happens to choose would be a shorter way for player 0, but player 1 may send it back
		{"model 6\nstate 0 0\nchoice 0: 1 1\nchoice 0: 4 1\nstate 1 0\nchoice 0: 2 1/2, 3 1/2\nchoice 0: 0 1\n", []api.Num{half, half, one, zero, half, half}},
	} {
		text := c.text + end
		if len(c.want) > 4 {
			text += more
		}
		m := read(text)
		x, s, e := Best(m, []int{2})
		checkNumbers(t, "Best", x, e, c.want...)
		if is, e := Optimal(m, []int{2}, s); !is || e != api.OK {
			t.Errorf("%v: %v %d", s, is, e)
		}
		p, _ := Prove(m, []int{2})
		if is, e := Check(m, []int{2}, p); !is || e != api.OK {
			t.Errorf("%v: %v %d", p, is, e)
		}
	}
}

// no goal, and nothing else
func TestExtremeGoals(t *testing.T) {
	m := read(token)
	for top, goal := range [][]int{nil, {0, 1, 2, 3}} {
		want := slices.Repeat([]api.Num{ratio(top, 1)}, 4)
		x, _, e := Best(m, goal)
		checkNumbers(t, "Best", x, e, want...)
		p, e := Prove(m, goal)
		checkNumbers(t, "Prove", p.Value, e, want...)
		if is, e := Check(m, goal, p); !is || e != api.OK {
			t.Errorf("%v: %v %d", p, is, e)
		}
		for player := range 2 {
			x, s, e := Against(m, goal, []int{1, 1, 0, 0}, player)
			checkNumbers(t, "Against", x, e, want...)
			if s[player] != 1 {
				t.Errorf("%v", s)
			}
		}
		if is, e := Optimal(m, goal, []int{1, 1, 0, 0}); !is || e != api.OK {
			t.Errorf("%v %d", is, e)
		}
	}
}
