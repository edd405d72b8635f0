package reach

import (
	"dicebox/api"
	"dicebox/model"
	"math/big"
	"math/rand"
	"slices"
	"testing"
)

// read reads a model.
func read(text string) api.Model {
	m, e := model.Parse(text)
	if e != api.OK {
		panic(text)
	}
	return m
}

// ratio returns the number top / low in lowest terms.
func ratio(top, low int) api.Num {
	a, b := low, max(top, -top)
	for b != 0 {
		a, b = b, a%b
	}
	return api.Num{Top: top / a, Low: low / a}
}

// wideOf returns a number of the standard library, with which the tests compare.
func wideOf(a api.Num) *big.Rat { return big.NewRat(int64(a.Top), int64(a.Low)) }

// numOf returns a valid number, or whether there is none.
func numOf(a *big.Rat) (api.Num, bool) {
	limit := big.NewInt(api.MaxNum)
	if a.Num().CmpAbs(limit) > 0 || a.Denom().Cmp(limit) > 0 {
		return api.Num{}, false
	}
	return api.Num{Top: int(a.Num().Int64()), Low: int(a.Denom().Int64())}, true
}

// compare checks that got consists of the numbers of want, or that the error is ErrFull if one of them
// is not valid. It reports whether all are valid.
func compare(t *testing.T, name string, got []api.Num, e api.Errno, want []*big.Rat) bool {
	t.Helper()
	var numbers []api.Num
	for _, a := range want {
		number, valid := numOf(a)
		if !valid {
			if e != api.ErrFull || len(got) != 0 {
				t.Fatalf("%s: %v %d instead of ErrFull", name, got, e)
			}
			return false
		}
		numbers = append(numbers, number)
	}
	if e != api.OK || !slices.Equal(got, numbers) {
		t.Fatalf("%s: %v %d instead of %v", name, got, e, numbers)
	}
	return true
}

// branch returns a choice without reward; parts contains the parts of low with which it leads to each
// state.
func branch(low int, parts map[int]int) api.Choice {
	out := api.Choice{Reward: api.Num{Top: 0, Low: 1}}
	for to := range api.MaxStates {
		if part := parts[to]; part > 0 {
			out.Branches = append(out.Branches, api.Branch{To: to, Chance: ratio(part, low)})
		}
	}
	return out
}

// sampleChoice returns a choice that leads to at most five of n states, most often the last one among them.
func sampleChoice(r *rand.Rand, n, low int) api.Choice {
	parts, rest := map[int]int{}, low
	l := r.Perm(n)[:min((r.Intn(6)+3)/2, n)]
	if r.Intn(3) > 0 && !slices.Contains(l, n-1) {
		l = append(l, n-1)
	}
	for i, to := range l {
		part := rest
		if i < len(l)-1 {
			part = 1 + r.Intn(rest-len(l)+i+1)
		}
		parts[to] = part
		rest -= part
	}
	return branch(low, parts)
}

// sample returns a model with n states, each of them with at most a number of choices; all lower numbers of
// chances are divisors of one of lows. Some choices of a state are equal, or stay there, and most often the last
// state cannot be left.
func sample(r *rand.Rand, n, choices int, lows ...int) api.Model {
	var out api.Model
	for s := range n {
		state := api.State{Owner: r.Intn(2), Mark: s % 64}
		for range r.Intn(choices) + 1 {
			c := sampleChoice(r, n, lows[r.Intn(len(lows))])
			switch {
			case r.Intn(16) == 0:
				c = branch(1, map[int]int{s: 1})
			case r.Intn(8) == 0 && len(state.Choices) > 0:
				c.Branches = slices.Clone(state.Choices[0].Branches)
			}
			state.Choices = append(state.Choices, c)
		}
		if s == n-1 && r.Intn(3) > 0 {
			state.Choices = []api.Choice{branch(1, map[int]int{s: 1})}
		}
		out.States = append(out.States, state)
	}
	return out
}

// subset returns a set of one or two states; sometimes an empty one.
func subset(r *rand.Rand, n int) []int {
	l := r.Perm(n)[:min(r.Intn(8), n)]
	l = l[:min(len(l), 1+r.Intn(2))]
	slices.Sort(l)
	return l
}

// samples calls try with small models and goals: plain ones, and such with long numbers.
func samples(count int, try func(r *rand.Rand, m api.Model, goal []int, plain bool)) {
	r := rand.New(rand.NewSource(int64(count)))
	for i := range count {
		n := min(r.Intn(7)+1, 5)
		switch goal := subset(r, n); i % 4 {
		case 0, 1:
			try(r, sample(r, n, 3, 12), goal, true)
		case 2:
			try(r, sample(r, n, 3, 12, 7, 1000, 1<<20), goal, false)
		case 3:
			try(r, sample(r, n, 3, 1<<40-87, 1<<41-21, 1<<60-93, 1<<60-107), goal, false)
		}
	}
}

// strategies returns all strategies.
func strategies(m api.Model) [][]int {
	out := [][]int{nil}
	for _, state := range m.States {
		var longer [][]int
		for _, s := range out {
			for c := range state.Choices {
				longer = append(longer, append(slices.Clone(s), c))
			}
		}
		out = longer
	}
	return out
}

func zeros(n int) []*big.Rat {
	out := make([]*big.Rat, n)
	for i := range out {
		out[i] = new(big.Rat)
	}
	return out
}

// meanOf returns the mean of x by a choice.
func meanOf(c api.Choice, x []*big.Rat) *big.Rat {
	out := new(big.Rat)
	for _, b := range c.Branches {
		out.Add(out, new(big.Rat).Mul(wideOf(b.Chance), x[b.To]))
	}
	return out
}

// chances returns the chance of reaching goal from each state in the chain fixed by s.
func chances(m api.Model, goal, s []int) []*big.Rat {
	n := len(m.States)
	possible := make([]bool, n)
	for _, g := range goal {
		possible[g] = true
	}
	for range n {
		for i, state := range m.States {
			for _, b := range state.Choices[s[i]].Branches {
				possible[i] = possible[i] || possible[b.To]
			}
		}
	}
	table := make([][]*big.Rat, n)
	for i, state := range m.States {
		table[i] = zeros(n + 1)
		table[i][i].SetInt64(1)
		switch {
		case slices.Contains(goal, i):
			table[i][n].SetInt64(1)
		case possible[i]:
			for _, b := range state.Choices[s[i]].Branches {
				table[i][b.To].Sub(table[i][b.To], wideOf(b.Chance))
			}
		}
	}
	return solved(table)
}

// solved returns the only solution of equations; each row ends with the right side.
func solved(table [][]*big.Rat) []*big.Rat {
	for j := range table {
		lead := j + slices.IndexFunc(table[j:], func(row []*big.Rat) bool { return row[j].Sign() != 0 })
		table[j], table[lead] = table[lead], table[j]
		factor := new(big.Rat).Inv(table[j][j])
		for _, x := range table[j] {
			x.Mul(x, factor)
		}
		for i, row := range table {
			if i == j || row[j].Sign() == 0 {
				continue
			}
			factor := new(big.Rat).Set(row[j])
			for k, x := range row {
				x.Sub(x, new(big.Rat).Mul(factor, table[j][k]))
			}
		}
	}
	out := make([]*big.Rat, len(table))
	for i, row := range table {
		out[i] = row[len(table)]
	}
	return out
}

// better reports whether a is better than b.
func better(max bool, a, b *big.Rat) bool {
	if max {
		return a.Cmp(b) > 0
	}
	return a.Cmp(b) < 0
}

// values returns the best chance of reaching goal from each state, over all strategies.
func values(m api.Model, goal []int, max bool) []*big.Rat {
	var out []*big.Rat
	for _, s := range strategies(m) {
		x := chances(m, goal, s)
		if out == nil {
			out = x
		}
		for i, a := range x {
			if better(max, a, out[i]) {
				out[i] = a
			}
		}
	}
	return out
}

// within returns the best chance of reaching goal with at most n steps from each state.
func within(m api.Model, goal []int, n int, max bool) []*big.Rat {
	now := zeros(len(m.States))
	for _, g := range goal {
		now[g].SetInt64(1)
	}
	for range n {
		next := zeros(len(m.States))
		for i, state := range m.States {
			next[i] = now[i]
			if slices.Contains(goal, i) {
				continue
			}
			next[i] = meanOf(state.Choices[0], now)
			for _, c := range state.Choices {
				if mean := meanOf(c, now); better(max, mean, next[i]) {
					next[i] = mean
				}
			}
		}
		now = next
	}
	return now
}

// isProof reports whether p is a proof, by the words of the document.
func isProof(m api.Model, goal []int, max bool, p Proof) bool {
	n := len(m.States)
	if len(p.Value) != n || len(p.Pick) != n || len(p.Rank) != n {
		return false
	}
	x := make([]*big.Rat, n)
	for i, a := range p.Value {
		if a.Low < 1 || a.Top < 0 || a.Top > api.MaxNum || a.Low > api.MaxNum || a != ratio(a.Top, a.Low) {
			return false
		}
		if p.Pick[i] < 0 || p.Pick[i] >= len(m.States[i].Choices) {
			return false
		}
		x[i] = wideOf(a)
	}
	for i := range m.States {
		if !isProved(m, goal, max, p, x, i) {
			return false
		}
	}
	return true
}

// isProved reports whether what a proof says of state i is right; x contains its numbers.
func isProved(m api.Model, goal []int, max bool, p Proof, x []*big.Rat, i int) bool {
	one := big.NewRat(1, 1)
	if slices.Contains(goal, i) {
		return x[i].Cmp(one) == 0 && p.Rank[i] == 0
	}
	choices := m.States[i].Choices
	if meanOf(choices[p.Pick[i]], x).Cmp(x[i]) != 0 {
		return false
	}
	for _, c := range choices {
		if better(max, meanOf(c, x), x[i]) {
			return false
		}
	}
	if x[i].Sign() == 0 {
		return p.Rank[i] == 0
	}
	if p.Rank[i] < 1 || p.Rank[i] > len(x) {
		return false
	}
	for c, choice := range choices {
		found := false
		for _, b := range choice.Branches {
			isGood := !max || slices.Contains(goal, b.To) || x[b.To].Sign() > 0
			found = found || isGood && p.Rank[b.To] < p.Rank[i]
		}
		if !found && (!max || c == p.Pick[i]) {
			return false
		}
	}
	return true
}
