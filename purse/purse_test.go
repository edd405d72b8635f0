package purse

import (
	"dicebox/api"
	"dicebox/exact"
	"math/big"
	"math/rand"
	"slices"
	"testing"
)

func both() []bool { return []bool{false, true} }

// ratio returns the number top / low in lowest terms.
func ratio(top, low int) api.Num {
	out, _ := exact.Ratio(exact.Whole(top), exact.Whole(low)).Num()
	return out
}

// sampleChoice returns a choice that costs something and leads to at most three of n states.
func sampleChoice(r *rand.Rand, n, low, cost int) api.Choice {
	to := r.Perm(n)[:min(r.Intn(3)+1, n)]
	slices.Sort(to)
	out := api.Choice{Reward: ratio(cost, 1)}
	rest := low
	for i, s := range to {
		part := rest
		if i < len(to)-1 {
			part = 1 + r.Intn(rest-len(to)+i+1)
		}
		out.Branches = append(out.Branches, api.Branch{To: s, Chance: ratio(part, low)})
		rest -= part
	}
	return out
}

// sample returns a model with n states.
func sample(r *rand.Rand, n int, costs []int, lows ...int) api.Model {
	var out api.Model
	for s := range n {
		var state api.State
		for range r.Intn(3) + 1 {
			c := sampleChoice(r, n, lows[r.Intn(len(lows))], costs[r.Intn(len(costs))])
			if r.Intn(8) == 0 {
				c.Branches = []api.Branch{{To: s, Chance: ratio(1, 1)}}
			}
			state.Choices = append(state.Choices, c)
		}
		out.States = append(out.States, state)
	}
	return out
}

// samples calls try with games that have a goal of one state.
func samples(count int, try func(r *rand.Rand, m api.Model, goal []int, g *game)) {
	r := rand.New(rand.NewSource(int64(count)))
	costs := [][]int{{0, 1, 2}, {0, 3, 5}, {1, 2}, {0, 0, 1}, {4, 7, 300, 1 << 60}}
	for i := range count {
		n := r.Intn(5) + 1
		m := sample(r, n, costs[i%len(costs)], 4, 3, 12)
		if i%5 == 0 || i%5 == 2 || i%7 == 3 {
			m = sample(r, n, costs[i%len(costs)], 3, 1<<20, 1<<60-93)
		}
		goal := []int{r.Intn(n)}
		for _, max := range both() {
			try(r, m, goal, newGame(m, goal, max))
		}
	}
}

// exactly returns the pass that computes exactly by a plan.
func (g *game) exactly(p plan) *pass {
	return &pass{game: g, plan: p, certain: one(), round: func(top exact.Rat, low exact.Int) exact.Rat {
		return top.Mul(exact.Ratio(exact.Whole(1), low))
	}}
}

// naive returns the numbers with the budget b, without plans and without numbers that are kept.
func (g *game) naive(b int) []exact.Rat {
	p := g.exactly(g.everything(b))
	for c := range b + 1 {
		p.solve(c, slices.Clone(g.start))
	}
	return p.levels[b].rounded
}

func equal(l, m []exact.Rat) bool {
	return slices.EqualFunc(l, m, func(a, b exact.Rat) bool { return a.Cmp(b) == 0 })
}

// TestPasses: pruned plans, kept numbers, and the choices that rounded numbers leave do not change what results.
func TestPasses(t *testing.T) {
	seen := map[string]int{}
	samples(400, func(r *rand.Rand, m api.Model, goal []int, g *game) {
		b := r.Intn(16)
		want := g.naive(b)
		p := g.everything(b)
		for range 2 {
			if x := g.exactly(p).run(); !equal(x, want) {
				t.Fatalf("%v %v %d: %v instead of %v", m, goal, b, x, want)
			}
			g.prune(p)
		}
		_, e := exact.Nums(want)
		for i, precision := range []int{0, 3, 7, 12, 30, 64, 200} {
			if i == 4 {
				p = g.everything(b)
			}
			restricted, refused := g.estimate(p, precision)
			switch {
			case refused && e == api.OK:
				t.Fatalf("%v %v %d %d: refused", m, goal, b, precision)
			case refused:
				seen["refused"]++
				continue
			}
			for range 2 {
				if x := g.exactly(restricted).run(); !equal(x, want) {
					t.Fatalf("%v %v %d %d: %v instead of %v", m, goal, b, precision, x, want)
				}
				g.prune(restricted)
			}
			p = restricted
			seen["planned"]++
			if slices.ContainsFunc(restricted, func(s stage) bool { return slices.Contains(s.options[len(goal)-1], 1) }) {
				seen["second"]++
			}
		}
	})
	if seen["refused"] < 60 || seen["planned"] < 2000 || seen["second"] < 100 {
		t.Errorf("%v", seen)
	}
}

// TestChances: whole results, also such that are refused.
func TestChances(t *testing.T) {
	valid := map[bool]int{}
	samples(300, func(r *rand.Rand, m api.Model, goal []int, g *game) {
		b := r.Intn(60)
		want, e := exact.Nums(g.naive(b))
		x, f := Chances(m, goal, b, g.prefers(1))
		if e != f || !slices.Equal(x, want) {
			t.Fatalf("%v %v %d: %v %d instead of %v %d", m, goal, b, x, f, want, e)
		}
		valid[e == api.OK]++
	})
	if valid[true] < 100 || valid[false] < 80 {
		t.Errorf("%v", valid)
	}
}

// TestMargins: rounded numbers differ from the exact ones by no more than estimate expects.
func TestMargins(t *testing.T) {
	samples(200, func(r *rand.Rand, m api.Model, goal []int, g *game) {
		b := r.Intn(12)
		const scale = 1 << 20
		p := g.exactly(g.everything(b))
		p.certain = exact.Of(ratio(scale, 1))
		p.round = func(top exact.Rat, low exact.Int) exact.Rat {
			quotient, _ := top.Top().Divide(top.Low().Mul(low))
			return exact.Ratio(quotient, exact.Whole(1))
		}
		want := g.naive(b)
		for s, x := range p.run() {
			distance := want[s].Mul(exact.Of(ratio(scale, 1))).Sub(x)
			if distance.Sign() < 0 || distance.Cmp(exact.Of(ratio(2*b+1, 1))) > 0 {
				t.Fatalf("%v %v %d: %v instead of %v", m, goal, b, x, want[s])
			}
		}
	})
}

// inTerms returns the integer n as an Int.
func inTerms(n *big.Int) exact.Int {
	return exact.Decimal(n.String())
}

// TestIsNearValid: intervals around fractions with long lower numbers.
func TestIsNearValid(t *testing.T) {
	r := rand.New(rand.NewSource(1))
	scale := new(big.Int).Lsh(big.NewInt(1), 300)
	near := func(top, low *big.Int, margin int) bool {
		x := new(big.Int).Mul(top, scale)
		return isNearValid(inTerms(x.Div(x, low)), exact.Whole(margin), inTerms(scale))
	}
	limit := big.NewInt(api.MaxNum)
	for range 300 {
		low := new(big.Int).Sub(limit, big.NewInt(r.Int63n(1<<r.Intn(60))))
		top := new(big.Int).Rand(r, low)
		if !near(top, low, 1) {
			t.Fatalf("%v / %v", top, low)
		}
		// this is too close to that fraction for other valid ones, but not near enough
		wide := new(big.Int).Lsh(low, 100)
		other := new(big.Int).Add(new(big.Int).Lsh(top, 100), big.NewInt(1))
		if near(other, wide, 1) {
			t.Fatalf("%v / %v", other, wide)
		}
		long := new(big.Int).Add(limit, big.NewInt(1+r.Int63n(1<<40)))
		top.Rand(r, long)
		if new(big.Int).GCD(nil, nil, top, long).Cmp(big.NewInt(1)) == 0 && near(top, long, 1) {
			t.Fatalf("%v / %v", top, long)
		}
	}
	for _, c := range []struct {
		top, low, margin int
		want             bool
	}{{0, 1, 0, true}, {1, 1, 0, true}, {1, 1, 5, true}, {1, api.MaxNum, 0, true}, {1, api.MaxNum + 1, 0, false}, {1, api.MaxNum + 1, 2, false}, {api.MaxNum, api.MaxNum + 1, 1, false}, {api.MaxNum - 1, api.MaxNum, 0, true}} {
		if is := near(big.NewInt(int64(c.top)), big.NewInt(int64(c.low)), c.margin); is != c.want {
			t.Errorf("%v: %v", c, is)
		}
	}
}

// TestShortcut: the numbers with small budgets are long, but with greater ones the goal is reached surely.
func TestShortcut(t *testing.T) {
	r := rand.New(rand.NewSource(5))
	n := api.MaxStates
	var m api.Model
	for s := range n {
		state := api.State{Choices: []api.Choice{{Reward: ratio(5, 1), Branches: []api.Branch{{To: max(s-1, 0), Chance: ratio(1, 1)}}}}}
		for i := range 7 {
			c := api.Choice{Reward: ratio(min(i, 3), 1)}
			low := 1<<60 - r.Intn(1<<59)
			rest := low
			to := append(r.Perm(n - 1)[:api.MaxBranches-1], n-1)
			slices.Sort(to)
			for j, t := range to {
				part := rest
				if j < len(to)-1 {
					part = 1 + r.Intn(rest/4)
				}
				rest -= part
				c.Branches = append(c.Branches, api.Branch{To: t, Chance: ratio(part, low)})
			}
			state.Choices = append(state.Choices, c)
		}
		m.States = append(m.States, state)
	}
	// the last state is a dead end
	m.States[n-1].Choices = []api.Choice{{Reward: ratio(0, 1), Branches: []api.Branch{{To: n - 1, Chance: ratio(1, 1)}}}}
	x, e := Chances(m, []int{0}, 190, true)
	if e != api.OK || x[n-1] != ratio(0, 1) || slices.ContainsFunc(x[:n-1], func(a api.Num) bool { return a != ratio(1, 1) }) {
		t.Errorf("%v %d", x, e)
	}
	if x, e := Chances(m, []int{0}, 150, true); e != api.ErrFull || len(x) != 0 {
		t.Errorf("%v %d", x, e)
	}
}

// TestPrune: numbers matter if those with the last budget depend on them, also by choices that cost nothing.
func TestPrune(t *testing.T) {
	toward := func(cost, to int) api.Choice {
		return api.Choice{Reward: ratio(cost, 1), Branches: []api.Branch{{To: to, Chance: ratio(1, 1)}}}
	}
	m := api.Model{States: []api.State{
		{Choices: []api.Choice{toward(1, 1), toward(2, 3)}},
		{Choices: []api.Choice{toward(0, 2), toward(9, 0)}},
		{Choices: []api.Choice{toward(3, 0)}},
		{Choices: []api.Choice{toward(0, 3)}},
	}}
	g := newGame(m, []int{3}, true)
	p := g.everything(2)
	p[2].options[1] = []int{1} // the free choice is not among the options
	g.prune(p)
	want := [][][]int{{nil, nil, nil, nil}, {nil, {0, 1}, {0}, nil}, {{0, 1}, {1}, {0}, nil}}
	for c, stage := range p {
		if !slices.EqualFunc(stage.options, want[c], slices.Equal[[]int]) {
			t.Errorf("budget %d: %v instead of %v", c, stage.options, want[c])
		}
	}
}
