package duel

import (
	"dicebox/api"
	"dicebox/model"
	"math"
	"math/rand"
	"slices"
	"testing"
)

func cloneProof(p Proof) Proof {
	return Proof{slices.Clone(p.Value), slices.Clone(p.Pick), slices.Clone(p.Low), slices.Clone(p.High)}
}

func equalProofs(p, q Proof) bool {
	return slices.Equal(p.Value, q.Value) && slices.Equal(p.Pick, q.Pick) && slices.Equal(p.Low, q.Low) && slices.Equal(p.High, q.High)
}

// changed returns a proof with one or two changes.
func changed(r *rand.Rand, m api.Model, p Proof) Proof {
	p = cloneProof(p)
	n := len(m.States)
	for range r.Intn(2) + 1 {
		s := r.Intn(n)
		switch r.Intn(4) {
		case 0:
			p.Value[s] = []api.Num{ratio(0, 1), ratio(1, 1), ratio(1, 2), p.Value[r.Intn(n)]}[r.Intn(4)]
		case 1:
			p.Pick[s] = r.Intn(len(m.States[s].Choices))
		case 2:
			p.Low[s] = r.Intn(n + 1)
		case 3:
			p.High[s] = r.Intn(n + 1)
		}
	}
	return p
}

// P10.3, P10.7, P5
func TestChangedProofs(t *testing.T) {
	seen := map[bool]int{}
	samples(600, func(r *rand.Rand, m api.Model, goal []int, plain bool) {
		p, e := Prove(m, goal)
		if e != api.OK {
			return
		}
		for range 10 {
			q := changed(r, m, p)
			want := isProof(m, goal, q)
			if is, e := Check(m, goal, q); is != want || e != api.OK {
				t.Fatalf("%v %v %v: %v %d instead of %v", m, goal, q, is, e, want)
			}
			seen[want]++
			if !want {
				continue
			}
			if is, e := Optimal(m, goal, q.Pick); !is || e != api.OK || !slices.Equal(q.Value, p.Value) {
				t.Fatalf("%v %v: %v is a proof like %v", m, goal, q, p)
			}
		}
	})
	if seen[true] < 300 || seen[false] < 300 {
		t.Errorf("%v", seen)
	}
}

// P10.3: each part of a proof matters
func TestParts(t *testing.T) {
	m, goal := read(token), []int{2}
	good, _ := Prove(m, goal)
	edits := []func(p *Proof){
		func(p *Proof) { p.Value = nil },
		func(p *Proof) { p.Pick = nil },
		func(p *Proof) { p.Low = nil },
		func(p *Proof) { p.High = nil },
		func(p *Proof) { p.Value = append(p.Value, ratio(0, 1)) },
		func(p *Proof) { p.Pick = append(p.Pick, 0) },
		func(p *Proof) { p.Low = append(p.Low, 0) },
		func(p *Proof) { p.High = append(p.High, 0) },
		func(p *Proof) { p.Value[0] = api.Num{} },
		func(p *Proof) { p.Value[0] = api.Num{Top: 2, Low: 6} },
		func(p *Proof) { p.Value[0] = ratio(1, 2) },
		func(p *Proof) { p.Value[0], p.Value[1] = ratio(1, 2), ratio(1, 2) },
		func(p *Proof) { p.Value[2] = ratio(2, 1) },
		func(p *Proof) { p.Value[3] = ratio(-1, 1) },
		func(p *Proof) { p.Pick[0] = 0 },
		func(p *Proof) { p.Pick[1] = 0 },
		func(p *Proof) { p.Pick[0], p.Pick[1] = 0, 0 },
		func(p *Proof) { p.Pick[0] = 2 },
		func(p *Proof) { p.Pick[1] = 2 },
		func(p *Proof) { p.Pick[2] = 1 },
		func(p *Proof) { p.Pick[3] = -1 },
		func(p *Proof) { p.Pick[0] = math.MinInt },
		func(p *Proof) { p.Low[0], p.Low[1] = 2, 1 },
		func(p *Proof) { p.High[0], p.High[1] = 2, 1 },
		func(p *Proof) { p.Low[1] = 5 },
		func(p *Proof) { p.High[1] = 5 },
		func(p *Proof) { p.Low[0] = 0 },
		func(p *Proof) { p.High[0] = 0 },
		func(p *Proof) { p.Low[2] = 1 },
		func(p *Proof) { p.High[3] = math.MinInt },
	}
	for i, edit := range edits {
		p := cloneProof(good)
		edit(&p)
		if is, e := Check(m, goal, p); is || e != api.OK || isProof(m, goal, p) {
			t.Errorf("edit %d: %v is a proof: %v %d", i, p, is, e)
		}
	}
	good.Low, good.High = []int{3, 4, 0, 0}, []int{1, 3, 0, 0}
	if is, e := Check(m, goal, good); !is || e != api.OK {
		t.Errorf("%v: %v %d", good, is, e)
	}
}

// notValid contains models that are not valid.
func notValid() []api.Model {
	edits := []func(m *api.Model){
		func(m *api.Model) { m.States = nil },
		func(m *api.Model) { m.States[0].Owner = 2 },
		func(m *api.Model) { m.States[1].Choices = nil },
		func(m *api.Model) { m.States[1].Choices[0].Reward.Low = 0 },
		func(m *api.Model) { m.States[1].Choices[0].Branches = nil },
		func(m *api.Model) { m.States[1].Choices[1].Branches[0].To = 4 },
		func(m *api.Model) { m.States[1].Choices[1].Branches[0].Chance.Low = 0 },
		func(m *api.Model) { m.States = slices.Repeat(m.States[2:3], api.MaxStates+1) },
	}
	var out []api.Model
	for _, edit := range edits {
		m := read(token)
		edit(&m)
		out = append(out, m)
	}
	return out
}

// checkError checks that the functions with a strategy return an error.
func checkError(t *testing.T, m api.Model, goal, s []int, player int, want api.Errno) {
	t.Helper()
	if x, s, e := Against(m, goal, s, player); e != want || len(x)+len(s) != 0 {
		t.Errorf("Against: %v %v %d instead of %d", x, s, e, want)
	}
	if want != api.ErrArg {
		return
	}
	if is, e := Optimal(m, goal, s); is || e != want {
		t.Errorf("Optimal: %v %d instead of %d", is, e, want)
	}
}

// checkErrors checks that all functions return ErrArg.
func checkErrors(t *testing.T, m api.Model, goal, s []int) {
	t.Helper()
	if x, s, e := Best(m, goal); e != api.ErrArg || len(x)+len(s) != 0 {
		t.Errorf("Best: %v %v %d", x, s, e)
	}
	if p, e := Prove(m, goal); e != api.ErrArg || len(p.Value)+len(p.Pick)+len(p.Low)+len(p.High) != 0 {
		t.Errorf("Prove: %v %d", p, e)
	}
	good, _ := Prove(read(token), []int{2})
	for _, p := range []Proof{{}, good} {
		if is, e := Check(m, goal, p); is || e != api.ErrArg {
			t.Errorf("Check: %v %d", is, e)
		}
	}
	for _, player := range []int{0, 1, -1, 2} {
		checkError(t, m, goal, s, player, api.ErrArg)
	}
}

// P10.1 to P10.5: what is not valid
func TestErrors(t *testing.T) {
	for _, m := range notValid() {
		for _, goal := range [][]int{nil, {0}, {-1}} {
			checkErrors(t, m, goal, make([]int, len(m.States)))
			checkErrors(t, m, goal, nil)
		}
	}
	m, s := read(token), []int{1, 1, 0, 0}
	for _, goal := range [][]int{{4}, {-1}, {0, 0}, {1, 0}, {math.MinInt}, {math.MaxInt}, make([]int, 1<<16)} {
		checkErrors(t, m, goal, s)
		checkErrors(t, m, goal, nil)
	}
	players := []int{-1, 2, math.MinInt, math.MaxInt}
	for _, wrong := range [][]int{nil, {0, 0, 0}, {0, 0, 0, 0, 0}, {2, 0, 0, 0}, {0, 0, 0, 1}, {0, -1, 0, 0}, {0, math.MaxInt, 0, 0}} {
		for _, player := range append(players, 0, 1) {
			checkError(t, m, []int{2}, wrong, player, api.ErrArg)
		}
	}
	for _, player := range players {
		checkError(t, m, []int{2}, s, player, api.ErrRange)
	}
}

// copyOf returns a model that shares no memory with m.
func copyOf(m api.Model) api.Model {
	out := api.Model{States: slices.Clone(m.States)}
	for i, state := range out.States {
		out.States[i].Choices = slices.Clone(state.Choices)
		for j, c := range state.Choices {
			out.States[i].Choices[j].Branches = slices.Clone(c.Branches)
		}
	}
	return out
}

// Rules 5 and 7: no call modifies its arguments, no result shares memory with them or with other results, and
// equal arguments yield equal results.
func TestEffects(t *testing.T) {
	samples(100, func(r *rand.Rand, m api.Model, goal []int, plain bool) {
		before, set := copyOf(m), slices.Clone(goal)
		p, e := Prove(m, goal)
		if e != api.OK {
			return
		}
		want := cloneProof(p)
		x, s, _ := Best(m, goal)
		y, both, _ := Against(m, goal, s, 0)
		Optimal(m, goal, s)
		Check(m, goal, p)
		if !slices.Equal(x, want.Value) || !slices.Equal(s, want.Pick) || !slices.Equal(y, x) || !equalProofs(p, want) {
			t.Fatalf("%v %v %v %v", x, s, y, p)
		}
		for i, l := range [][]int{s, both, p.Pick, p.Low, p.High} {
			for j := range l[:cap(l)] {
				l[:cap(l)][j] = 70 + i
			}
		}
		for i, l := range [][]int{s, both, p.Pick, p.Low, p.High} {
			if slices.ContainsFunc(l, func(n int) bool { return n != 70+i }) {
				t.Fatal("two lists share memory")
			}
		}
		for _, l := range [][]api.Num{x, y, p.Value} {
			clear(l[:cap(l)])
		}
		if p, _ := Prove(m, goal); !equalProofs(p, want) || !model.Identical(m, before) || !slices.Equal(goal, set) {
			t.Fatalf("%v %v %v", p, m, goal)
		}
	})
}

// TestGreatest: games with as many states, choices and branches as possible.
func TestGreatest(t *testing.T) {
	r := rand.New(rand.NewSource(1))
	n := api.MaxStates
	var all []int
	for s := range n {
		all = append(all, s)
	}
	var m api.Model
	for s := range n {
		state := api.State{Owner: s % 2}
		for range api.MaxChoices {
			parts, rest := map[int]int{}, 1<<60-r.Intn(1<<59)
			low := rest
			for i, to := range append(r.Perm(n - 1)[:api.MaxBranches-1], n-1) {
				parts[to] = 1 + r.Intn(rest/4)
				if i == api.MaxBranches-1 {
					parts[to] = rest
				}
				rest -= parts[to]
			}
			state.Choices = append(state.Choices, branch(low, parts))
		}
		m.States = append(m.States, state)
	}
	m.States[n-1].Choices = []api.Choice{branch(1, map[int]int{n - 1: 1})}
	for _, goal := range [][]int{all, {0, n - 1}} {
		x, s, e := Best(m, goal)
		if e != api.OK || slices.ContainsFunc(x, func(a api.Num) bool { return a != ratio(1, 1) }) {
			t.Errorf("%v %d", x, e)
		}
		p, _ := Prove(m, goal)
		if is, e := Check(m, goal, p); !is || e != api.OK {
			t.Errorf("%v %d", is, e)
		}
		if is, e := Optimal(m, goal, s); !is || e != api.OK {
			t.Errorf("%v %d", is, e)
		}
	}
	goal := all[:10]
	if x, s, e := Best(m, goal); e != api.ErrFull || len(x)+len(s) != 0 {
		t.Errorf("%v %v %d", x, s, e)
	}
	if is, e := Optimal(m, goal, make([]int, n)); is || e != api.OK {
		t.Errorf("%v %d", is, e)
	}
	g := newGame(m, goal)
	x, s := g.solve()
	if is, e := Optimal(m, goal, s); !is || e != api.OK || len(x) != n {
		t.Errorf("%v %d", is, e)
	}
}
