package sure

import (
	"dicebox/api"
	"dicebox/model"
	"math"
	"math/rand"
	"slices"
	"testing"
)

// dice is the game of dice of the document; in again, state 0 returns to itself in place of the dead end.
const (
	dice  = "model 3\nstate 0 0\nchoice 0: 1 2/3, 2 1/3\nchoice 0: 0 1/2, 1 1/4, 2 1/4\nstate 0 0\nchoice 0: 1 1\nstate 0 1\nchoice 0: 2 1\n"
	again = "model 3\nstate 0 0\nchoice 0: 0 2/3, 2 1/3\nchoice 0: 0 3/4, 2 1/4\nstate 0 0\nchoice 0: 1 1\nstate 0 1\nchoice 0: 2 1\n"
)

// pair is a game in which the players pass a token: each of them may keep it or pass it on, and player 0
// may throw for the goal, state 2, with the dead end, state 3, as the other outcome.
const pair = "model 4\nstate 0 0\nchoice 0: 0 1\nchoice 0: 1 1\nchoice 0: 2 1/2, 3 1/2\nstate 1 0\nchoice 0: 1 1\nchoice 0: 0 1/2, 2 1/2\nstate 0 0\nchoice 0: 2 1\nstate 1 0\nchoice 0: 3 1\n"

// search is one of the functions that return a set and a strategy.
type search func(m api.Model, goal []int, p int) ([]int, []int, api.Errno)

func searches() []search { return []search{Possible, Sure, Avoid} }

func checkSet(t *testing.T, name string, got []int, e api.Errno, want ...int) {
	t.Helper()
	if e != api.OK || !slices.Equal(got, want) {
		t.Errorf("%s: %v %d instead of %v", name, got, e, want)
	}
}

// P7.1 to P7.3
func TestExamples(t *testing.T) {
	m := read(dice)
	l, _, e := Possible(m, []int{2}, 0)
	checkSet(t, "Possible", l, e, 0, 2)
	l, _, e = Sure(m, []int{2}, 0)
	checkSet(t, "Sure", l, e, 2)
	l, _, e = Avoid(m, []int{2}, 0)
	checkSet(t, "Avoid", l, e, 1)
	l, _, e = Sure(read(again), []int{2}, 0)
	checkSet(t, "Sure", l, e, 0, 2)

	m = read(pair)
	l, s, e := Possible(m, []int{2}, 0)
	checkSet(t, "Possible", l, e, 0, 2)
	checkSet(t, "strategy", s, e, 2, 0, 0, 0)
	l, s, e = Possible(m, []int{2}, 1)
	checkSet(t, "Possible", l, e, 1, 2)
	checkSet(t, "strategy", s, e, 0, 1, 0, 0)
	l, _, e = Sure(m, []int{2}, 0)
	checkSet(t, "Sure", l, e, 2)
	l, _, e = Sure(m, []int{2, 3}, 0)
	checkSet(t, "Sure", l, e, 0, 2, 3)
	l, s, e = Avoid(m, []int{2}, 1)
	checkSet(t, "Avoid", l, e, 1, 3)
	checkSet(t, "strategy", s, e, 0, 0, 0, 0)
}

// P7.1 to P7.3: the goal contains no state, and all of them
func TestExtremeGoals(t *testing.T) {
	for p := range 2 {
		for _, text := range []string{dice, again, pair} {
			m := read(text)
			var all []int
			for s := range m.States {
				all = append(all, s)
			}
			for i, f := range searches() {
				none, full := []int(nil), all
				if i == 2 {
					none, full = all, nil
				}
				l, _, e := f(m, nil, p)
				checkSet(t, "no goal", l, e, none...)
				l, _, e = f(m, all, p)
				checkSet(t, "all goals", l, e, full...)
			}
			for _, sure := range []bool{false, true} {
				s := make([]int, len(all))
				if is, e := Attains(m, nil, p, nil, s, sure); !is || e != api.OK {
					t.Errorf("%v %d", is, e)
				}
				if is, e := Attains(m, nil, p, all[:1], s, sure); is || e != api.OK {
					t.Errorf("%v %d", is, e)
				}
				if is, e := Attains(m, all, p, all, s, sure); !is || e != api.OK {
					t.Errorf("%v %d", is, e)
				}
			}
		}
	}
}

// P7.1 to P7.5: all strategies of both players
func TestAllStrategies(t *testing.T) {
	r := rand.New(rand.NewSource(1))
	seen := map[bool]int{}
	for range 1000 {
		n := r.Intn(5) + 1
		m := sample(r, n, 3)
		goal, p := subset(r, n, 2), r.Intn(2)
		best := outcome{make([]bool, n), make([]bool, n), make([]bool, n)}
		for _, s := range strategies(m, p) {
			o := outcomeOf(t, m, goal, p, s)
			checkAttains(t, m, goal, p, s, o, subset(r, n, n), seen)
			for i := range n {
				best.positive[i] = best.positive[i] || o.positive[i]
				best.one[i] = best.one[i] || o.one[i]
				best.zero[i] = best.zero[i] || o.zero[i]
			}
		}
		l, s, e := Possible(m, goal, p)
		checkSet(t, "Possible", l, e, states(best.positive)...)
		checkSubset(t, m, l, states(outcomeOf(t, m, goal, p, s).positive))
		l, s, e = Sure(m, goal, p)
		checkSet(t, "Sure", l, e, states(best.one)...)
		checkSubset(t, m, l, states(outcomeOf(t, m, goal, p, s).one))
		l, s, e = Avoid(m, goal, p)
		checkSet(t, "Avoid", l, e, states(best.zero)...)
		checkSubset(t, m, l, states(outcomeOf(t, m, goal, p, s).zero))
	}
	if seen[false] < 300 || seen[true] < 300 {
		t.Errorf("%v", seen)
	}
}

// checkSubset checks that a strategy attains the states of l.
func checkSubset(t *testing.T, m api.Model, l, attained []int) {
	t.Helper()
	if !isSubset(l, attained) {
		t.Fatalf("%v: the strategy does not attain %v, but %v", m, l, attained)
	}
}

// checkAttains checks Attains for the set l and for those that the strategy just attains.
func checkAttains(t *testing.T, m api.Model, goal []int, p int, s []int, o outcome, l []int, seen map[bool]int) {
	t.Helper()
	for _, sure := range []bool{false, true} {
		attained := states(o.positive)
		if sure {
			attained = states(o.one)
		}
		want := isSubset(l, attained)
		if is, e := Attains(m, goal, p, l, s, sure); is != want || e != api.OK {
			t.Fatalf("%v %v %d %v %v %v: %v %d", m, goal, p, l, s, sure, is, e)
		}
		if is, e := Attains(m, goal, p, attained, s, sure); !is || e != api.OK {
			t.Fatalf("%v %v %d %v %v %v: %v %d", m, goal, p, attained, s, sure, is, e)
		}
		seen[want]++
	}
}

// games calls f for games of all sizes with a goal.
func games(f func(r *rand.Rand, m api.Model, goal []int)) {
	r := rand.New(rand.NewSource(2))
	for range 300 {
		n := r.Intn(api.MaxStates) + 1
		f(r, sample(r, n, r.Intn(4)+1), subset(r, n, 5))
	}
}

// P7.5
func TestStrategies(t *testing.T) {
	games(func(r *rand.Rand, m api.Model, goal []int) {
		for p := range 2 {
			for i, sure := range []bool{false, true} {
				l, s, e := searches()[i](m, goal, p)
				if is, f := Attains(m, goal, p, l, s, sure); e != api.OK || f != api.OK || !is {
					t.Fatalf("%v %v %d: %v %v %d %d", m, goal, p, l, s, e, f)
				}
				for range 5 {
					k, s := []int{r.Intn(len(m.States))}, anyStrategy(r, m, p)
					if is, f := Attains(m, goal, p, k, s, sure); f != api.OK || is && !isSubset(k, l) {
						t.Fatalf("%v %v %d: %v attains %v, which is not in %v", m, goal, p, s, k, l)
					}
				}
			}
		}
	})
}

// P7.6
func TestOpposites(t *testing.T) {
	games(func(r *rand.Rand, m api.Model, goal []int) {
		for p := range 2 {
			l, _, _ := Possible(m, goal, p)
			k, _, _ := Avoid(m, goal, 1-p)
			both := slices.Sorted(slices.Values(slices.Concat(l, k)))
			if len(both) != len(m.States) || len(slices.Compact(both)) != len(m.States) {
				t.Fatalf("%v %v %d: %v %v", m, goal, p, l, k)
			}
		}
	})
}

// P7.7
func TestOrder(t *testing.T) {
	proper := 0
	games(func(r *rand.Rand, m api.Model, goal []int) {
		greater := slices.Compact(slices.Sorted(slices.Values(slices.Concat(goal, subset(r, len(m.States), 3)))))
		for p := range 2 {
			l, _, _ := Possible(m, goal, p)
			k, _, _ := Sure(m, goal, p)
			if !isSubset(k, l) || !isSubset(goal, k) {
				t.Fatalf("%v %v %d: %v %v", m, goal, p, l, k)
			}
			if len(goal) < len(k) && len(k) < len(l) {
				proper++
			}
			moreL, _, _ := Possible(m, greater, p)
			moreK, _, _ := Sure(m, greater, p)
			if !isSubset(l, moreL) || !isSubset(k, moreK) {
				t.Fatalf("%v %v %v %d", m, goal, greater, p)
			}
		}
	})
	if proper < 20 {
		t.Errorf("only %d games with three different sets", proper)
	}
}

// P7.8
func TestChances(t *testing.T) {
	games(func(r *rand.Rand, m api.Model, goal []int) {
		other := otherChances(r, m)
		for p := range 2 {
			for i, f := range searches() {
				l, _, e := f(m, goal, p)
				k, _, g := f(other, goal, p)
				if e != api.OK || g != api.OK || !slices.Equal(l, k) {
					t.Fatalf("function %d: %v %d, %v %d", i, l, e, k, g)
				}
			}
		}
	})
}

// greatest returns a game of one player with the dead end n-2 and the goal n-1. In all other states the
// last choice is given, and the others risk the dead end.
func greatest(player int, last func(i int) api.Choice) api.Model {
	var out api.Model
	n := api.MaxStates
	for i := range n {
		state := api.State{Owner: player, Choices: slices.Repeat([]api.Choice{choice(i)}, api.MaxChoices)}
		if i < n-2 {
			state.Choices = append(slices.Repeat([]api.Choice{choice(i, n-2)}, api.MaxChoices-1), last(i))
		}
		out.States = append(out.States, state)
	}
	return out
}

// TestGreatest: games whose sets grow or shrink by one state in each round.
func TestGreatest(t *testing.T) {
	n := api.MaxStates
	var all, but []int
	for i := range n {
		all = append(all, i)
		if i != n-2 {
			but = append(but, i)
		}
	}
	for p := range 2 {
		// from each state only the next one is nearer to the goal
		m := greatest(p, func(i int) api.Choice {
			if i == n-3 {
				return choice(i-1, n-1)
			}
			return choice(max(i-1, 0), i+1)
		})
		l, s, e := Possible(m, []int{n - 1}, p)
		checkSet(t, "Possible", l, e, but...)
		if s[0] != api.MaxChoices-1 {
			t.Errorf("%v", s)
		}
		l, _, e = Sure(m, []int{n - 1}, p)
		checkSet(t, "Sure", l, e, but...)
		l, _, e = Avoid(m, []int{n - 1}, p)
		checkSet(t, "Avoid", l, e, all[:n-1]...)
		l, _, e = Avoid(m, []int{n - 1}, 1-p)
		checkSet(t, "Avoid", l, e, n-2)
		l, _, e = Sure(m, []int{n - 1}, 1-p)
		checkSet(t, "Sure", l, e, n-1)

		// each state may lead to the next one, and so to the dead end in the end
		m = greatest(p, func(i int) api.Choice { return choice(i+1, n-1) })
		l, _, e = Sure(m, []int{n - 1}, p)
		checkSet(t, "Sure", l, e, n-1)
		l, _, e = Possible(m, []int{n - 1}, p)
		checkSet(t, "Possible", l, e, but...)
		l, _, e = Sure(m, []int{n - 2, n - 1}, p)
		checkSet(t, "Sure", l, e, all...)
	}
}

// notValid contains models that are not valid.
func notValid() []api.Model {
	edits := []func(m *api.Model){
		func(m *api.Model) { m.States = nil },
		func(m *api.Model) { m.States[0].Owner = 2 },
		func(m *api.Model) { m.States[1].Choices = nil },
		func(m *api.Model) { m.States[1].Choices[0].Branches = nil },
		func(m *api.Model) { m.States[1].Choices[0].Branches[0].To = 3 },
		func(m *api.Model) { m.States[1].Choices[0].Branches[0].To = -1 },
		func(m *api.Model) { m.States[1].Choices[0].Branches[0].Chance.Low = 0 },
		func(m *api.Model) { m.States = slices.Repeat(m.States[1:2], api.MaxStates+1) },
	}
	var out []api.Model
	for _, edit := range edits {
		m := read(dice)
		edit(&m)
		out = append(out, m)
	}
	return out
}

// notSets contains lists that are no sets of states of the game of dice.
func notSets() [][]int {
	return [][]int{{3}, {-1}, {0, 0}, {1, 0}, {0, 1, 2, 3}, {math.MinInt}, {math.MaxInt}, make([]int, 1<<16)}
}

// notPlayers contains numbers that are no players.
func notPlayers() []int { return []int{-1, 2, math.MinInt, math.MaxInt} }

// checkSearches checks that all functions that return a set return an error.
func checkSearches(t *testing.T, m api.Model, goal []int, p int, want api.Errno) {
	t.Helper()
	for i, f := range searches() {
		if l, s, e := f(m, goal, p); e != want || len(l) != 0 || len(s) != 0 {
			t.Errorf("function %d: %v %v %d instead of %d", i, l, s, e, want)
		}
	}
}

func checkAttainsError(t *testing.T, m api.Model, goal []int, p int, l, s []int, want api.Errno) {
	t.Helper()
	for _, sure := range []bool{false, true} {
		if is, e := Attains(m, goal, p, l, s, sure); is || e != want {
			t.Errorf("%v %d %v %v: %v %d instead of %d", goal, p, l, s, is, e, want)
		}
	}
}

func TestErrors(t *testing.T) {
	valid := []int{0, 0, 0}
	for _, m := range notValid() {
		for _, p := range append(notPlayers(), 0, 1) {
			checkSearches(t, m, nil, p, api.ErrArg)
			checkAttainsError(t, m, nil, p, nil, make([]int, len(m.States)), api.ErrArg)
			checkAttainsError(t, m, nil, p, nil, valid, api.ErrArg)
		}
	}
	m := read(dice)
	for _, p := range append(notPlayers(), 0, 1) {
		for _, l := range notSets() {
			checkSearches(t, m, l, p, api.ErrArg)
			checkAttainsError(t, m, l, p, nil, valid, api.ErrArg)
			checkAttainsError(t, m, nil, p, l, valid, api.ErrArg)
		}
		for _, s := range [][]int{nil, {0, 0}, {0, 0, 0, 0}, {2, 0, 0}, {0, 1, 0}, {0, 0, -1}, {math.MinInt, 0, 0}, {0, 0, math.MaxInt}} {
			checkAttainsError(t, m, nil, p, nil, s, api.ErrArg)
		}
	}
	for _, p := range notPlayers() {
		checkSearches(t, m, []int{2}, p, api.ErrRange)
		checkAttainsError(t, m, []int{2}, p, []int{2}, valid, api.ErrRange)
		checkAttainsError(t, m, []int{2}, p, []int{2}, []int{1, 0, 0}, api.ErrRange)
	}
	// all choices of a strategy of player 1 are 0 in states of player 0
	checkAttainsError(t, m, []int{2}, 1, []int{2}, []int{1, 0, 0}, api.ErrKind)
	checkAttainsError(t, read(pair), nil, 0, nil, []int{0, 1, 0, 0}, api.ErrKind)
	if is, e := Attains(m, []int{2}, 1, []int{2}, valid, true); !is || e != api.OK {
		t.Errorf("%v %d", is, e)
	}
}

// TestEffects: no call modifies its arguments, no result shares memory with them, and equal arguments
// yield equal results.
func TestEffects(t *testing.T) {
	games(func(r *rand.Rand, m api.Model, goal []int) {
		before, set := otherChances(rand.New(rand.NewSource(3)), m), slices.Clone(goal)
		m = otherChances(rand.New(rand.NewSource(3)), m)
		for p := range 2 {
			for i, f := range searches() {
				l, s, _ := f(m, goal, p)
				wantL, wantS := slices.Clone(l), slices.Clone(s)
				Attains(m, goal, p, l, s, i == 1)
				if !slices.Equal(l, wantL) || !slices.Equal(s, wantS) {
					t.Fatalf("%v %v", l, s)
				}
				clear(l[:cap(l)])
				clear(s[:cap(s)])
				l, s, _ = f(m, goal, p)
				if !slices.Equal(l, wantL) || !slices.Equal(s, wantS) {
					t.Fatalf("%v %v", l, s)
				}
				if valid, e := model.ValidStrategy(m, s); !valid || e != api.OK || !isPartial(m, p, s) {
					t.Fatalf("%v is no strategy of %d", s, p)
				}
			}
		}
		if !model.Identical(m, before) || !slices.Equal(goal, set) {
			t.Fatalf("%v %v", m, goal)
		}
	})
}

// isPartial reports whether s is 0 in the states of the other player.
func isPartial(m api.Model, p int, s []int) bool {
	for i, state := range m.States {
		if state.Owner != p && s[i] != 0 {
			return false
		}
	}
	return true
}
