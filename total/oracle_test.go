package total

import (
	"dicebox/api"
	"dicebox/chain"
	"dicebox/model"
	"math/big"
	"math/rand"
	"slices"
	"testing"
)

func both() []bool { return []bool{false, true} }

// read reads a model.
func read(text string) api.Model {
	m, e := model.Parse(text)
	if e != api.OK {
		panic(text)
	}
	return m
}

// ratio returns the number top / low in lowest terms.
func ratio(top, low int) api.Num {
	a, b := low, max(top, -top)
	for b != 0 {
		a, b = b, a%b
	}
	return api.Num{Top: top / a, Low: low / a}
}

// finite returns a finite value, and infinite an infinite one.
func finite(a api.Num) chain.Value { return chain.Value{Num: a} }

func infinite() chain.Value { return chain.Value{Inf: true} }

// wideOf returns a number of the standard library, with which the tests compare.
func wideOf(a api.Num) *big.Rat { return big.NewRat(int64(a.Top), int64(a.Low)) }

// numOf returns a valid number, or whether there is none.
func numOf(a *big.Rat) (api.Num, bool) {
	limit := big.NewInt(api.MaxNum)
	if a.Num().CmpAbs(limit) > 0 || a.Denom().Cmp(limit) > 0 {
		return api.Num{}, false
	}
	return api.Num{Top: int(a.Num().Int64()), Low: int(a.Denom().Int64())}, true
}

// compare checks that got consists of the numbers of want, or that the error is ErrFull if one of them
// is not valid. It reports whether all are valid. In want and got, nil stands for infinite.
func compare(t *testing.T, name string, got []chain.Value, e api.Errno, want []*big.Rat) bool {
	t.Helper()
	var values []chain.Value
	for _, a := range want {
		if a == nil {
			values = append(values, infinite())
			continue
		}
		number, valid := numOf(a)
		if !valid {
			if e != api.ErrFull || len(got) != 0 {
				t.Fatalf("%s: %v %d instead of ErrFull", name, got, e)
			}
			return false
		}
		values = append(values, finite(number))
	}
	if e != api.OK || !slices.Equal(got, values) {
		t.Fatalf("%s: %v %d instead of %v", name, got, e, values)
	}
	return true
}

// compareNumbers is compare for finite values.
func compareNumbers(t *testing.T, name string, got []api.Num, e api.Errno, want []*big.Rat) bool {
	t.Helper()
	var values []chain.Value
	for _, a := range got {
		values = append(values, finite(a))
	}
	return compare(t, name, values, e, want)
}

// sampleChoice returns a choice that leads to at most three of n states.
func sampleChoice(r *rand.Rand, n, low int) api.Choice {
	to := r.Perm(n)[:min(r.Intn(3)+1, n)]
	slices.Sort(to)
	out := api.Choice{Reward: number(r.Intn(3))}
	rest := low
	for i, s := range to {
		part := rest
		if i < len(to)-1 {
			part = 1 + r.Intn(rest-len(to)+i+1)
		}
		out.Branches = append(out.Branches, api.Branch{To: s, Chance: ratio(part, low)})
		rest -= part
	}
	return out
}

// sample returns a model with n states; all lower numbers of chances are divisors of one of lows. Many choices cost
// nothing, and some of them return to their state.
func sample(r *rand.Rand, n, choices int, lows ...int) api.Model {
	var out api.Model
	for s := range n {
		state := api.State{Owner: r.Intn(2), Mark: r.Intn(64)}
		for range r.Intn(choices) + 1 {
			c := sampleChoice(r, n, lows[r.Intn(len(lows))])
			switch {
			case r.Intn(8) == 0:
				c.Branches = []api.Branch{{To: s, Chance: number(1)}}
			case r.Intn(5) == 0 && len(state.Choices) > 0:
				first := state.Choices[0]
				c = api.Choice{Reward: first.Reward, Branches: slices.Clone(first.Branches)}
			}
			state.Choices = append(state.Choices, c)
		}
		out.States = append(out.States, state)
	}
	return out
}

// withFractions returns m with other rewards, most of them no integers.
func withFractions(r *rand.Rand, m api.Model, lows ...int) api.Model {
	out := copyOf(m)
	for i := range out.States {
		for j := range out.States[i].Choices {
			if r.Intn(4) > 0 {
				out.States[i].Choices[j].Reward = ratio(r.Intn(1<<20), lows[r.Intn(len(lows))])
			}
		}
	}
	return out
}

// copyOf returns a model that shares no memory with m.
func copyOf(m api.Model) api.Model {
	out := api.Model{States: slices.Clone(m.States)}
	for i, state := range out.States {
		out.States[i].Choices = slices.Clone(state.Choices)
		for j, c := range state.Choices {
			out.States[i].Choices[j].Branches = slices.Clone(c.Branches)
		}
	}
	return out
}

// subset returns a set of states, most often of one.
func subset(r *rand.Rand, n int) []int {
	l := r.Perm(n)[:min([]int{0, 1, 1, 1, 1, 1, 2, 2, 3}[r.Intn(9)], n)]
	slices.Sort(l)
	return l
}

// samples calls try with small models and goals: such with short numbers, and others. The rewards of the first half are
// integers.
func samples(count int, try func(r *rand.Rand, m api.Model, goal []int)) {
	r := rand.New(rand.NewSource(int64(count)))
	for i := range count {
		n := r.Intn(5) + 1
		choices := r.Intn(3) + 1
		goal := subset(r, n)
		var m api.Model
		switch i % 3 {
		case 0, 1:
			m = sample(r, n, choices, 3, 4, 12)
		case 2:
			m = sample(r, n, choices, 3, 12, 1000, 1<<20, 1<<60-93)
		}
		if i >= count/2 {
			m = withFractions(r, m, 2, 7, 1<<40, 1<<60)
		}
		try(r, m, goal)
	}
}

// strategies returns all strategies.
func strategies(m api.Model) [][]int {
	out := [][]int{nil}
	for _, state := range m.States {
		var longer [][]int
		for _, s := range out {
			for c := range state.Choices {
				longer = append(longer, append(slices.Clone(s), c))
			}
		}
		out = longer
	}
	return out
}

func zeros(n int) []*big.Rat {
	out := make([]*big.Rat, n)
	for i := range out {
		out[i] = new(big.Rat)
	}
	return out
}

// solved returns the only solution of equations; each row ends with the right side.
func solved(table [][]*big.Rat) []*big.Rat {
	for j := range table {
		lead := j + slices.IndexFunc(table[j:], func(row []*big.Rat) bool { return row[j].Sign() != 0 })
		table[j], table[lead] = table[lead], table[j]
		factor := new(big.Rat).Inv(table[j][j])
		for _, x := range table[j] {
			x.Mul(x, factor)
		}
		for i, row := range table {
			if i == j || row[j].Sign() == 0 {
				continue
			}
			factor := new(big.Rat).Set(row[j])
			for k, x := range row {
				x.Sub(x, new(big.Rat).Mul(factor, table[j][k]))
			}
		}
	}
	out := make([]*big.Rat, len(table))
	for i, row := range table {
		out[i] = row[len(table)]
	}
	return out
}

// leading returns the states from which a list of states can be reached in a chain, not through states of goal.
func leading(fixed api.Model, goal, l []int) []bool {
	out := make([]bool, len(fixed.States))
	for _, s := range l {
		out[s] = true
	}
	for range fixed.States {
		for i, state := range fixed.States {
			for _, b := range state.Choices[0].Branches {
				out[i] = out[i] || out[b.To] && !slices.Contains(goal, i)
			}
		}
	}
	return out
}

// expected returns the expectation of s from each state, nil for infinite ones.
func expected(m api.Model, goal, s []int) []*big.Rat {
	fixed, _ := model.Fix(m, s)
	hopeful := leading(fixed, goal, goal)
	var lost []int
	for i, is := range hopeful {
		if !is {
			lost = append(lost, i)
		}
	}
	unsure := leading(fixed, goal, lost)
	n := len(m.States)
	table := make([][]*big.Rat, n)
	for i, state := range fixed.States {
		table[i] = zeros(n + 1)
		table[i][i].SetInt64(1)
		if unsure[i] || slices.Contains(goal, i) {
			continue
		}
		table[i][n] = wideOf(state.Choices[0].Reward)
		for _, b := range state.Choices[0].Branches {
			table[i][b.To].Sub(table[i][b.To], wideOf(b.Chance))
		}
	}
	out := solved(table)
	for i, is := range unsure {
		if is {
			out[i] = nil
		}
	}
	return out
}

// better reports whether a is better than b; nil is infinite.
func better(max bool, a, b *big.Rat) bool {
	switch {
	case a == nil || b == nil:
		return max && a == nil && b != nil || !max && a != nil && b == nil
	case max:
		return a.Cmp(b) > 0
	}
	return a.Cmp(b) < 0
}

// valuesOf returns the best expectation from each state, over all strategies.
func valuesOf(m api.Model, goal []int, max bool) []*big.Rat {
	var out []*big.Rat
	for _, s := range strategies(m) {
		x := expected(m, goal, s)
		if out == nil {
			out = x
		}
		for i, a := range x {
			if better(max, a, out[i]) {
				out[i] = a
			}
		}
	}
	return out
}

// sumOf returns the sum of a choice, nil if it is not defined.
func sumOf(c api.Choice, x []*big.Rat) *big.Rat {
	out := wideOf(c.Reward)
	for _, b := range c.Branches {
		if x[b.To] == nil {
			return nil
		}
		out.Add(out, new(big.Rat).Mul(wideOf(b.Chance), x[b.To]))
	}
	return out
}

// stepsOf returns the best expected sum of n rewards before goal.
func stepsOf(m api.Model, goal []int, n int, max bool) []*big.Rat {
	now := zeros(len(m.States))
	for range n {
		next := zeros(len(m.States))
		for i, state := range m.States {
			if slices.Contains(goal, i) {
				continue
			}
			next[i] = sumOf(state.Choices[0], now)
			for _, c := range state.Choices {
				if sum := sumOf(c, now); better(max, sum, next[i]) {
					next[i] = sum
				}
			}
		}
		now = next
	}
	return now
}

// isProof reports whether p is a proof, by the words of the document.
func isProof(m api.Model, goal []int, max bool, p Proof) bool {
	n := len(m.States)
	if len(p.Value) != n || len(p.Pick) != n || len(p.Rank) != n {
		return false
	}
	x := make([]*big.Rat, n)
	for i, v := range p.Value {
		if p.Pick[i] < 0 || p.Pick[i] >= len(m.States[i].Choices) {
			return false
		}
		a := v.Num
		switch {
		case v.Inf && a != api.Num{}:
			return false
		case v.Inf:
			continue
		case a.Low < 1 || a.Top < 0 || a.Top > api.MaxNum || a.Low > api.MaxNum || a != ratio(a.Top, a.Low):
			return false
		}
		x[i] = wideOf(a)
	}
	for i := range m.States {
		switch {
		case slices.Contains(goal, i):
			if x[i] == nil || x[i].Sign() != 0 || p.Rank[i] != 0 {
				return false
			}
		case x[i] != nil:
			if !isFiniteProved(m, max, p, x, i) {
				return false
			}
		case !isInfiniteProved(m, max, p, x, i):
			return false
		}
	}
	return true
}

// isFiniteProved reports whether what a proof says of state i with a finite number is right; x contains the numbers.
func isFiniteProved(m api.Model, max bool, p Proof, x []*big.Rat, i int) bool {
	if p.Rank[i] < 1 || p.Rank[i] > len(x) {
		return false
	}
	for c, choice := range m.States[i].Choices {
		sum := sumOf(choice, x)
		nearer := slices.ContainsFunc(choice.Branches, func(b api.Branch) bool { return x[b.To] != nil && p.Rank[b.To] < p.Rank[i] })
		if c == p.Pick[i] && (sum == nil || sum.Cmp(x[i]) != 0) {
			return false
		}
		if max && (sum == nil || sum.Cmp(x[i]) > 0 || !nearer) {
			return false
		}
		if !max && (sum != nil && sum.Cmp(x[i]) < 0 || c == p.Pick[i] && !nearer) {
			return false
		}
	}
	return true
}

// isInfiniteProved reports whether what a proof says of state i with an infinite value is right.
func isInfiniteProved(m api.Model, max bool, p Proof, x []*big.Rat, i int) bool {
	rank := p.Rank[i]
	counts := func(c api.Choice) (equal, lesser int) {
		for _, b := range c.Branches {
			if x[b.To] == nil && p.Rank[b.To] == rank {
				equal++
			}
			if x[b.To] == nil && p.Rank[b.To] < rank {
				lesser++
			}
		}
		return equal, lesser
	}
	if max {
		c := m.States[i].Choices[p.Pick[i]]
		equal, lesser := counts(c)
		return rank == 0 && equal == len(c.Branches) || rank >= 1 && rank <= len(x) && lesser > 0
	}
	for _, c := range m.States[i].Choices {
		if equal, lesser := counts(c); lesser == 0 && equal < len(c.Branches) {
			return false
		}
	}
	return rank >= 1 && rank <= len(x)
}

// budgetsOf returns the best chance of reaching goal with a cost of at most b, over all lists of strategies for each budget
// that is left. All rewards are integers.
func budgetsOf(m api.Model, goal []int, b int, max bool) []*big.Rat {
	var levels [][]*big.Rat
	for c := range b + 1 {
		var best []*big.Rat
		for _, s := range strategies(m) {
			x := levelOf(m, goal, s, c, levels)
			if best == nil {
				best = x
			}
			for i, a := range x {
				if better(max, a, best[i]) {
					best[i] = a
				}
			}
		}
		levels = append(levels, best)
	}
	return levels[b]
}

// levelOf returns the chance of reaching goal from each state if the budget c is left and the choices are made by s until
// something is paid; levels contains the best chances for all lesser budgets.
func levelOf(m api.Model, goal, s []int, c int, levels [][]*big.Rat) []*big.Rat {
	n := len(m.States)
	fixed, _ := model.Fix(m, s)
	ends := slices.Clone(goal) // where it is known what follows
	for i, state := range fixed.States {
		if state.Choices[0].Reward.Top > 0 {
			ends = append(ends, i)
		}
	}
	possible := leading(fixed, ends, ends)
	table := make([][]*big.Rat, n)
	for i, state := range fixed.States {
		table[i] = zeros(n + 1)
		table[i][i].SetInt64(1)
		choice := state.Choices[0]
		cost := choice.Reward.Top
		switch {
		case slices.Contains(goal, i):
			table[i][n].SetInt64(1)
		case cost > c || !possible[i]:
		case cost > 0:
			free := api.Choice{Reward: number(0), Branches: choice.Branches}
			table[i][n] = sumOf(free, levels[c-cost])
		default:
			for _, b := range choice.Branches {
				table[i][b.To].Sub(table[i][b.To], wideOf(b.Chance))
			}
		}
	}
	return solved(table)
}
