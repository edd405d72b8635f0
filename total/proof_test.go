package total

import (
	"dicebox/api"
	"dicebox/chain"
	"math"
	"math/rand"
	"slices"
	"testing"
)

func cloneProof(p Proof) Proof {
	return Proof{slices.Clone(p.Value), slices.Clone(p.Pick), slices.Clone(p.Rank)}
}

func equalProofs(p, q Proof) bool {
	return slices.Equal(p.Value, q.Value) && slices.Equal(p.Pick, q.Pick) && slices.Equal(p.Rank, q.Rank)
}

// changed returns a proof with up to three changes, which may cancel or keep it a proof.
func changed(r *rand.Rand, m api.Model, p Proof) Proof {
	p = cloneProof(p)
	n := len(m.States)
	for range r.Intn(3) + 1 {
		s := r.Intn(n)
		switch r.Intn(6) {
		case 0:
			p.Value[s] = []chain.Value{finite(number(0)), finite(number(1)), finite(ratio(1, 2)), infinite(), p.Value[r.Intn(n)]}[r.Intn(5)]
		case 1:
			p.Pick[s] = r.Intn(len(m.States[s].Choices))
		case 2, 3:
			p.Rank[s] = r.Intn(n + 1)
		case 4:
			t := r.Intn(n)
			p.Rank[s], p.Rank[t] = p.Rank[t], p.Rank[s]
		case 5:
			// all finite or all infinite values become infinite or 0
			for t := range n {
				if r.Intn(2) == 0 {
					p.Value[t] = p.Value[s]
				}
			}
		}
	}
	return p
}

// P12.4, P12.8, P5
func TestChangedProofs(t *testing.T) {
	seen := map[[2]bool]int{}
	samples(1000, func(r *rand.Rand, m api.Model, goal []int) {
		for _, max := range both() {
			p, e := Prove(m, goal, max)
			if e != api.OK {
				continue
			}
			for range 20 {
				q := changed(r, m, p)
				want := isProof(m, goal, max, q)
				if is, e := Check(m, goal, max, q); is != want || e != api.OK {
					t.Fatalf("%v %v %v: %v %d instead of %v", m, goal, q, is, e, want)
				}
				seen[[2]bool{max, want}]++
				if !want {
					continue
				}
				if !slices.Equal(q.Value, p.Value) {
					t.Fatalf("%v %v: %v is a proof like %v", m, goal, q, p)
				}
				if x, e := Of(m, goal, q.Pick); !slices.Equal(x, p.Value) || e != api.OK {
					t.Fatalf("%v %v: %v is not optimal", m, goal, q)
				}
			}
		}
	})
	for _, max := range both() {
		if seen[[2]bool{max, true}] < 500 || seen[[2]bool{max, false}] < 500 {
			t.Errorf("%v", seen)
		}
	}
}

// TestSmallProofs: of all proofs with small numbers for small models, those that Check accepts are the right ones.
func TestSmallProofs(t *testing.T) {
	seen := map[bool]int{}
	values := []chain.Value{finite(number(0)), finite(number(1)), finite(number(2)), infinite()}
	r := rand.New(rand.NewSource(3))
	for range 60 {
		m := sample(r, 2, 2, 2)
		goal := subset(r, 2)
		for i := range 1 << 10 {
			p := Proof{
				Value: []chain.Value{values[i&3], values[i>>2&3]},
				Pick:  []int{i >> 4 & 1, i >> 5 & 1},
				Rank:  []int{i >> 6 & 3, i >> 8 & 3},
			}
			for _, max := range both() {
				want := isProof(m, goal, max, p)
				if is, e := Check(m, goal, max, p); is != want || e != api.OK {
					t.Fatalf("%v %v %v: %v %d instead of %v", m, goal, p, is, e, want)
				}
				seen[want]++
			}
		}
	}
	if seen[true] < 50 {
		t.Errorf("%v", seen)
	}
}

// P12.4: each part of a proof matters
func TestParts(t *testing.T) {
	m, goal := read(dice), []int{1, 2}
	for _, max := range both() {
		good, _ := Prove(m, goal, max)
		edits := []func(p *Proof){
			func(p *Proof) { p.Value = nil },
			func(p *Proof) { p.Pick = nil },
			func(p *Proof) { p.Rank = nil },
			func(p *Proof) { p.Value = append(p.Value, finite(number(0))) },
			func(p *Proof) { p.Pick = append(p.Pick, 0) },
			func(p *Proof) { p.Rank = append(p.Rank, 0) },
			func(p *Proof) { p.Value[0] = chain.Value{} },
			func(p *Proof) { p.Value[0].Num.Top *= 2; p.Value[0].Num.Low = 2 },
			func(p *Proof) { p.Value[0].Num.Top *= -1; p.Value[0].Num.Low = -1 },
			func(p *Proof) { p.Value[0] = finite(number(3)) },
			func(p *Proof) { p.Value[0] = finite(number(0)) },
			func(p *Proof) { p.Value[0] = infinite() },
			func(p *Proof) { p.Value[0].Inf = true },
			func(p *Proof) { p.Value[1] = infinite() },
			func(p *Proof) { p.Value[1] = chain.Value{} },
			func(p *Proof) { p.Value[1] = finite(number(-1)) },
			func(p *Proof) { p.Value[1] = finite(number(1)) },
			func(p *Proof) { p.Value[2] = finite(api.Num{Top: 0, Low: 2}) },
			func(p *Proof) { p.Value[2] = finite(api.Num{Top: math.MinInt, Low: math.MinInt}) },
			func(p *Proof) { p.Pick[0] = 1 - p.Pick[0] },
			func(p *Proof) { p.Pick[0] = -1 },
			func(p *Proof) { p.Pick[0] = 2 },
			func(p *Proof) { p.Pick[2] = 1 }, // a state of the goal has a choice, too
			func(p *Proof) { p.Pick[1] = math.MaxInt },
			func(p *Proof) { p.Rank[0] = 0 },
			func(p *Proof) { p.Rank[0] = -1 },
			func(p *Proof) { p.Rank[0] = 4 },
			func(p *Proof) { p.Rank[1] = 1 },
			func(p *Proof) { p.Rank[2] = -1 },
			func(p *Proof) { p.Rank[2] = math.MinInt },
		}
		for i, edit := range edits {
			p := cloneProof(good)
			edit(&p)
			if is, e := Check(m, goal, max, p); is || e != api.OK || isProof(m, goal, max, p) {
				t.Errorf("edit %d: %v is a proof: %v %d", i, p, is, e)
			}
		}
	}
}

// P12.4: the ranks of infinite values
func TestInfiniteParts(t *testing.T) {
	m, goal := read(dice), []int{2}
	proof := func(first, second chain.Value, ranks ...int) Proof {
		return Proof{[]chain.Value{first, second, finite(number(0))}, []int{1, 0, 0}, ranks}
	}
	checks := []struct {
		p        Proof
		max, min bool
	}{
		{proof(infinite(), infinite(), 1, 0, 0), true, false},
		{proof(infinite(), infinite(), 2, 0, 0), true, false},
		{proof(infinite(), infinite(), 3, 0, 0), true, false},
		{proof(infinite(), infinite(), 4, 0, 0), false, false},
		{proof(infinite(), infinite(), 0, 0, 0), false, false}, // a branch leads to the goal
		{proof(infinite(), infinite(), 2, 1, 0), false, true},
		{proof(infinite(), infinite(), 3, 2, 0), false, true},
		{proof(infinite(), infinite(), 1, 1, 0), false, false},
		{proof(infinite(), infinite(), 1, 2, 0), false, false},
		{proof(infinite(), infinite(), 4, 3, 0), false, false},
		{proof(infinite(), infinite(), 1, -1, 0), false, false},
		{proof(infinite(), infinite(), 2, 1, 1), false, false},
		{proof(infinite(), finite(number(0)), 1, 1, 0), false, false}, // no way to the goal
		{proof(finite(number(4)), infinite(), 1, 0, 0), false, false},
		{proof(finite(number(4)), infinite(), 1, 1, 0), false, false}, // no sum is defined
	}
	for _, c := range checks {
		for _, max := range both() {
			want := c.min
			if max {
				want = c.max
			}
			if is, e := Check(m, goal, max, c.p); is != want || e != api.OK || isProof(m, goal, max, c.p) != want {
				t.Errorf("%v %v: %v %d instead of %v", max, c.p, is, e, want)
			}
		}
	}
}

// P12.4: an infinite value has no number
func TestInfiniteNumbers(t *testing.T) {
	m, goal := read(dice), []int{2}
	for _, max := range both() {
		good, _ := Prove(m, goal, max)
		if is, e := Check(m, goal, max, good); !is || e != api.OK {
			t.Errorf("%v: %v %d", good, is, e)
		}
		for s := range 2 {
			for _, a := range []api.Num{number(0), number(1), {Top: 0, Low: -1}, {Top: 1, Low: 0}, {Top: math.MaxInt, Low: math.MinInt}} {
				p := cloneProof(good)
				p.Value[s].Num = a
				if is, e := Check(m, goal, max, p); is || e != api.OK {
					t.Errorf("%v: %v %d", p, is, e)
				}
			}
		}
	}
}

// P12.4: for max, no choice of a state with a finite number may lead to one with an infinite value, for min none but
// the best one
func TestUndefinedSums(t *testing.T) {
	m := read("model 3\nstate 0 0\nchoice 4: 2 1\nchoice 1: 1 1/2, 2 1/2\nstate 0 0\nchoice 0: 1 1\nstate 0 0\nchoice 0: 2 1\n")
	for _, max := range both() {
		for rank := range 2 {
			p := Proof{[]chain.Value{finite(number(4)), infinite(), finite(number(0))}, []int{0, 0, 0}, []int{1, rank, 0}}
			want := !max && rank == 1
			if is, e := Check(m, []int{2}, max, p); is != want || e != api.OK {
				t.Errorf("%v %v: %v %d", max, p, is, e)
			}
			p.Pick[0] = 1
			if is, e := Check(m, []int{2}, max, p); is || e != api.OK {
				t.Errorf("%v %v: %v %d", max, p, is, e)
			}
		}
	}
}

// P12.4: a proof of min may not count on a loop that costs nothing, and one of max not on ways out of it
func TestLoopProofs(t *testing.T) {
	m := read("model 2\nstate 0 0\nchoice 0: 0 1\nchoice 7: 1 1\nstate 0 0\nchoice 3: 1 1\n")
	for _, top := range []int{0, 3, 7} {
		for choice := range 2 {
			for rank := range 3 {
				p := Proof{[]chain.Value{finite(number(top)), finite(number(0))}, []int{choice, 0}, []int{rank, 0}}
				want := top == 7 && choice == 1 && rank > 0
				if is, e := Check(m, []int{1}, false, p); is != want || e != api.OK {
					t.Errorf("%v: %v %d", p, is, e)
				}
				if is, e := Check(m, []int{1}, true, p); is || e != api.OK {
					t.Errorf("%v: %v %d", p, is, e)
				}
			}
		}
	}
}

// P12.4: proofs for numbers near the limit are checked exactly
func TestLongProof(t *testing.T) {
	const low = 1<<60 - 93
	m := read(dice)
	for s := range m.States {
		branches := []api.Branch{{To: 0, Chance: ratio(5, low)}, {To: 1, Chance: ratio(7, low)}, {To: 2, Chance: ratio(low-12, low)}}
		m.States[s].Choices = []api.Choice{{Reward: ratio(1, low-2), Branches: branches}}
	}
	p := Proof{[]chain.Value{finite(ratio(low-2, low-1)), finite(ratio(low-4, low-3)), finite(number(0))}, []int{0, 0, 0}, []int{1, 1, 0}}
	for _, max := range both() {
		if is, e := Check(m, []int{2}, max, p); is || e != api.OK {
			t.Errorf("%v %d", is, e)
		}
	}
	// (1 - 1 / low) / (1 - 1 / low) = 1, and 1 is missed by a bit
	m.States[0].Choices[0] = api.Choice{Reward: ratio(low-1, low), Branches: []api.Branch{{To: 0, Chance: ratio(1, low)}, {To: 2, Chance: ratio(low-1, low)}}}
	m.States[1].Choices[0] = api.Choice{Reward: number(0), Branches: []api.Branch{{To: 2, Chance: number(1)}}}
	p.Value[1] = finite(number(0))
	for _, max := range both() {
		for _, value := range []api.Num{number(1), ratio(low-1, low), ratio(low+1, low)} {
			p.Value[0] = finite(value)
			if is, e := Check(m, []int{2}, max, p); is != (value == number(1)) || e != api.OK {
				t.Errorf("%v: %v %d", value, is, e)
			}
		}
	}
}

// P12.3, P12.8: proofs for models with many states and choices
func TestManyStates(t *testing.T) {
	r := rand.New(rand.NewSource(7))
	seen := map[string]int{}
	for range 150 {
		n := 10 + r.Intn(api.MaxStates-9)
		m := sample(r, n, api.MaxChoices, 4)
		for s := range m.States {
			// few branches, so that many values are valid
			for i := range m.States[s].Choices {
				if r.Intn(3) > 0 {
					m.States[s].Choices[i].Branches = []api.Branch{{To: r.Intn(n), Chance: number(1)}}
				}
			}
			// in most models all choices lead to states with greater numbers, or back
			for i, c := range m.States[s].Choices {
				if last := c.Branches[len(c.Branches)-1]; n%4 > 0 && last.To <= s && s < n-1 {
					m.States[s].Choices[i].Branches = []api.Branch{{To: s + 1 + r.Intn(n-s-1), Chance: number(1)}}
				}
			}
		}
		for _, max := range both() {
			goal := []int{n - 1}
			p, e := Prove(m, goal, max)
			if e != api.OK {
				seen["full"]++
				continue
			}
			if is, f := Check(m, goal, max, p); !is || f != api.OK || !isProof(m, goal, max, p) {
				t.Fatalf("%v %v: %v %d", m, p, is, f)
			}
			for _, v := range p.Value[:n-1] {
				if v.Inf {
					seen["infinite"]++
				} else if v.Num.Top > 0 {
					seen["positive"]++
				}
			}
		}
	}
	if seen["infinite"] < 500 || seen["positive"] < 500 {
		t.Errorf("%v", seen)
	}
}
