package reach

import (
	"dicebox/api"
	"math"
	"math/rand"
	"slices"
	"testing"
)

func cloneProof(p Proof) Proof {
	return Proof{slices.Clone(p.Value), slices.Clone(p.Pick), slices.Clone(p.Rank)}
}

// changed returns a proof with up to three changes, which may cancel or keep it a proof.
func changed(r *rand.Rand, m api.Model, p Proof) Proof {
	p = cloneProof(p)
	n := len(m.States)
	for range r.Intn(3) + 1 {
		s := r.Intn(n)
		switch r.Intn(4) {
		case 0:
			p.Value[s] = []api.Num{number(0), number(1), ratio(1, 2), number(2), p.Value[r.Intn(n)]}[r.Intn(5)]
		case 1:
			p.Pick[s] = r.Intn(len(m.States[s].Choices))
		case 2:
			p.Rank[s] = r.Intn(n + 1)
		case 3:
			t := r.Intn(n)
			p.Rank[s], p.Rank[t] = p.Rank[t], p.Rank[s]
		}
	}
	return p
}

// P9.3, P9.8, P5
func TestChangedProofs(t *testing.T) {
	seen := map[bool]int{}
	samples(600, func(r *rand.Rand, m api.Model, goal []int, plain bool) {
		for _, max := range both() {
			p, e := Prove(m, goal, max)
			if e != api.OK {
				continue
			}
			for range 20 {
				q := changed(r, m, p)
				want := isProof(m, goal, max, q)
				if is, e := Check(m, goal, max, q); is != want || e != api.OK {
					t.Fatalf("%v %v %v: %v %d instead of %v", m, goal, q, is, e, want)
				}
				seen[want]++
				if !want {
					continue
				}
				if !slices.Equal(q.Value, p.Value) {
					t.Fatalf("%v %v: %v is a proof like %v", m, goal, q, p)
				}
				if a, e := Regret(m, goal, q.Pick, max); a != number(0) || e != api.OK {
					t.Fatalf("%v %v: %v is not optimal", m, goal, q)
				}
			}
		}
	})
	if seen[true] < 500 || seen[false] < 500 {
		t.Errorf("%v", seen)
	}
}

// P9.3: each part of a proof matters
func TestParts(t *testing.T) {
	m, goal := read(dice), []int{2}
	for _, max := range both() {
		good, _ := Prove(m, goal, max)
		edits := []func(p *Proof){
			func(p *Proof) { p.Value = nil },
			func(p *Proof) { p.Pick = nil },
			func(p *Proof) { p.Rank = nil },
			func(p *Proof) { p.Value = append(p.Value, number(0)) },
			func(p *Proof) { p.Pick = append(p.Pick, 0) },
			func(p *Proof) { p.Rank = append(p.Rank, 0) },
			func(p *Proof) { p.Value[0] = api.Num{} },
			func(p *Proof) { p.Value[0] = api.Num{Top: 2, Low: 4} },
			func(p *Proof) { p.Value[1] = api.Num{Top: 0, Low: 2} },
			func(p *Proof) { p.Value[1] = api.Num{Top: 0, Low: -1} },
			func(p *Proof) { p.Value[2] = api.Num{Top: -1, Low: -1} },
			func(p *Proof) { p.Value[2] = api.Num{Top: math.MaxInt, Low: math.MaxInt} },
			func(p *Proof) { p.Value[0] = api.Num{Top: math.MinInt, Low: math.MinInt} },
			func(p *Proof) { p.Value[1] = number(-1) },
			func(p *Proof) { p.Value[2] = number(2) },
			func(p *Proof) { p.Value[1] = number(1); p.Rank[1] = 1 },
			func(p *Proof) { p.Pick[0] = 1 - p.Pick[0] },
			func(p *Proof) { p.Pick[0] = -1 },
			func(p *Proof) { p.Pick[0] = 2 },
			func(p *Proof) { p.Pick[2] = 1 }, // a state of the goal has a choice, too
			func(p *Proof) { p.Pick[2] = math.MinInt },
			func(p *Proof) { p.Pick[1] = math.MaxInt },
			func(p *Proof) { p.Rank[0] = 0 },
			func(p *Proof) { p.Rank[0] = 4 },
			func(p *Proof) { p.Rank[0] = -1 },
			func(p *Proof) { p.Rank[1] = 1 },
			func(p *Proof) { p.Rank[2] = 1 },
			func(p *Proof) { p.Rank[2] = -1 },
			func(p *Proof) { p.Rank[1] = math.MinInt },
		}
		for i, edit := range edits {
			p := cloneProof(good)
			edit(&p)
			if is, e := Check(m, goal, max, p); is || e != api.OK || isProof(m, goal, max, p) {
				t.Errorf("edit %d: %v is a proof: %v %d", i, p, is, e)
			}
		}
		for rank := 1; rank <= 3; rank++ {
			p := cloneProof(good)
			p.Rank[0] = rank
			if is, e := Check(m, goal, max, p); !is || e != api.OK {
				t.Errorf("%v: %v %d", p, is, e)
			}
		}
	}
}

// P9.3: proofs for numbers near the limit are checked exactly
func TestLongProof(t *testing.T) {
	const low = 1<<60 - 93
	m := api.Model{States: []api.State{
		{Choices: []api.Choice{branch(low, map[int]int{1: 1, 2: low - 1}), branch(low, map[int]int{1: 2, 2: low - 2})}},
		{Choices: []api.Choice{branch(1, map[int]int{1: 1})}},
		{Choices: []api.Choice{branch(1, map[int]int{2: 1})}},
	}}
	for top := range 4 {
		for pick := range 2 {
			for _, max := range both() {
				p := Proof{[]api.Num{ratio(top, low), number(1), number(0)}, []int{pick, 0, 0}, []int{1, 0, 0}}
				want := top == pick+1 && max == (pick == 1)
				if is, e := Check(m, []int{1}, max, p); is != want || e != api.OK {
					t.Errorf("%v: %v %d instead of %v", p, is, e, want)
				}
			}
		}
	}
	// numbers of 60 digits in each branch
	for s := range m.States {
		m.States[s].Choices = []api.Choice{branch(low, map[int]int{0: 5, 1: 7, 2: low - 12})}
	}
	p := Proof{[]api.Num{ratio(low-2, low-1), ratio(low-4, low-3), ratio(low-6, low-5)}, []int{0, 0, 0}, []int{1, 2, 3}}
	for _, max := range both() {
		if is, e := Check(m, nil, max, p); is || e != api.OK {
			t.Errorf("%v %d", is, e)
		}
	}
}
