package discount

import (
	"dicebox/api"
	"dicebox/model"
	"math/big"
	"math/rand"
	"slices"
	"testing"
)

// read reads a model.
func read(text string) api.Model {
	m, e := model.Parse(text)
	if e != api.OK {
		panic(text)
	}
	return m
}

// ratio returns the number top / low in lowest terms.
func ratio(top, low int) api.Num {
	a, b := low, max(top, -top)
	for b != 0 {
		a, b = b, a%b
	}
	return api.Num{Top: top / a, Low: low / a}
}

// wideOf returns a number of the standard library, with which the tests compare.
func wideOf(a api.Num) *big.Rat { return big.NewRat(int64(a.Top), int64(a.Low)) }

// numOf returns a valid number, or whether there is none.
func numOf(a *big.Rat) (api.Num, bool) {
	limit := big.NewInt(api.MaxNum)
	if a.Num().CmpAbs(limit) > 0 || a.Denom().Cmp(limit) > 0 {
		return api.Num{}, false
	}
	return api.Num{Top: int(a.Num().Int64()), Low: int(a.Denom().Int64())}, true
}

// compare checks that got consists of the numbers of want, or that the error is ErrFull if one of them
// is not valid. It reports whether all are valid.
func compare(t *testing.T, name string, got []api.Num, e api.Errno, want []*big.Rat) bool {
	t.Helper()
	var numbers []api.Num
	for _, a := range want {
		number, valid := numOf(a)
		if !valid {
			if e != api.ErrFull || len(got) != 0 {
				t.Fatalf("%s: %v %d instead of ErrFull", name, got, e)
			}
			return false
		}
		numbers = append(numbers, number)
	}
	if e != api.OK || !slices.Equal(got, numbers) {
		t.Fatalf("%s: %v %d instead of %v", name, got, e, numbers)
	}
	return true
}

// sampleChoice returns a choice that leads to at most three of n states.
func sampleChoice(r *rand.Rand, n, low int, reward api.Num) api.Choice {
	to := r.Perm(n)[:min(r.Intn(3)+1, n)]
	slices.Sort(to)
	out := api.Choice{Reward: reward}
	rest := low
	for i, s := range to {
		part := rest
		if i < len(to)-1 {
			part = 1 + r.Intn(rest-len(to)+i+1)
		}
		out.Branches = append(out.Branches, api.Branch{To: s, Chance: ratio(part, low)})
		rest -= part
	}
	return out
}

// sample returns a model with n states; all lower numbers of chances are divisors of one of lows. Some choices of a
// state are equal, some states are left by no choice, and most rewards are small integers.
func sample(r *rand.Rand, n int, long bool, lows ...int) api.Model {
	var out api.Model
	for s := range n {
		state := api.State{Owner: r.Intn(2), Mark: r.Intn(64)}
		for range r.Intn(3) + 1 {
			reward := ratio(r.Intn(5)-2, 1)
			if long && r.Intn(2) == 0 {
				reward = ratio(r.Intn(1<<60)-1<<59, 1+r.Intn(1<<20))
			}
			c := sampleChoice(r, n, lows[r.Intn(len(lows))], reward)
			switch {
			case r.Intn(6) == 0:
				c.Branches = []api.Branch{{To: s, Chance: ratio(1, 1)}}
			case r.Intn(4) == 0 && len(state.Choices) > 0:
				first := state.Choices[0]
				c = api.Choice{Reward: first.Reward, Branches: slices.Clone(first.Branches)}
			}
			state.Choices = append(state.Choices, c)
		}
		out.States = append(out.States, state)
	}
	return out
}

// samples calls try with small models and factors: plain ones, and such with long numbers.
func samples(count int, try func(r *rand.Rand, m api.Model, factor api.Num, plain bool)) {
	r := rand.New(rand.NewSource(int64(count)))
	for i := range count {
		n := r.Intn(4) + 1
		low := r.Intn(11) + 2
		factor := ratio(1+r.Intn(low-1), low)
		switch i % 4 {
		case 0, 1:
			try(r, sample(r, n, false, 3, 4, 12), factor, true)
		case 2:
			try(r, sample(r, n, false, 3, 12, 7, 1000, 1<<20), ratio(1+r.Intn(1<<10), 1<<10+1), false)
		case 3:
			low = 1<<60 - r.Intn(1<<59)
			try(r, sample(r, n, true, 3, 1<<40-87, 1<<60-93, 1<<60), ratio(1+r.Intn(low-1), low), false)
		}
	}
}

// strategies returns all strategies.
func strategies(m api.Model) [][]int {
	out := [][]int{nil}
	for _, state := range m.States {
		var longer [][]int
		for _, s := range out {
			for c := range state.Choices {
				longer = append(longer, append(slices.Clone(s), c))
			}
		}
		out = longer
	}
	return out
}

func zeros(n int) []*big.Rat {
	out := make([]*big.Rat, n)
	for i := range out {
		out[i] = new(big.Rat)
	}
	return out
}

// yieldOf returns the yield of a choice for x.
func yieldOf(c api.Choice, factor api.Num, x []*big.Rat) *big.Rat {
	out := new(big.Rat)
	for _, b := range c.Branches {
		out.Add(out, new(big.Rat).Mul(wideOf(b.Chance), x[b.To]))
	}
	return out.Add(out.Mul(out, wideOf(factor)), wideOf(c.Reward))
}

// bestYield returns the least choice of a state with its best yield for x, and that yield.
func bestYield(state api.State, factor api.Num, x []*big.Rat) (int, *big.Rat) {
	best, highest := 0, yieldOf(state.Choices[0], factor, x)
	for i, c := range state.Choices {
		sign := yieldOf(c, factor, x).Cmp(highest)
		if state.Owner == 0 && sign > 0 || state.Owner == 1 && sign < 0 {
			best, highest = i, yieldOf(c, factor, x)
		}
	}
	return best, highest
}

// worths returns the expected worth from each state in the chain fixed by s.
func worths(m api.Model, factor api.Num, s []int) []*big.Rat {
	n := len(m.States)
	table := make([][]*big.Rat, n)
	for i, state := range m.States {
		c := state.Choices[s[i]]
		table[i] = zeros(n + 1)
		table[i][i].SetInt64(1)
		table[i][n] = wideOf(c.Reward)
		for _, b := range c.Branches {
			part := new(big.Rat).Mul(wideOf(factor), wideOf(b.Chance))
			table[i][b.To].Sub(table[i][b.To], part)
		}
	}
	return solved(table)
}

// solved returns the only solution of equations; each row ends with the right side.
func solved(table [][]*big.Rat) []*big.Rat {
	for j := range table {
		lead := j + slices.IndexFunc(table[j:], func(row []*big.Rat) bool { return row[j].Sign() != 0 })
		table[j], table[lead] = table[lead], table[j]
		factor := new(big.Rat).Inv(table[j][j])
		for _, x := range table[j] {
			x.Mul(x, factor)
		}
		for i, row := range table {
			if i == j || row[j].Sign() == 0 {
				continue
			}
			factor := new(big.Rat).Set(row[j])
			for k, x := range row {
				x.Sub(x, new(big.Rat).Mul(factor, table[j][k]))
			}
		}
	}
	out := make([]*big.Rat, len(table))
	for i, row := range table {
		out[i] = row[len(table)]
	}
	return out
}

// merge returns the choices of player 0 in s, and those of player 1 in other.
func merge(m api.Model, s, other []int) []int {
	out := slices.Clone(s)
	for i, state := range m.States {
		if state.Owner == 1 {
			out[i] = other[i]
		}
	}
	return out
}

// valuesOf returns the values as the maximum over the strategies of player 0 of the minimum over those of player 1.
func valuesOf(m api.Model, factor api.Num) []*big.Rat {
	all := strategies(m)
	lists := map[string][]*big.Rat{}
	worthOf := func(s []int) []*big.Rat {
		key := ""
		for _, c := range s {
			key += string(rune('a' + c))
		}
		if lists[key] == nil {
			lists[key] = worths(m, factor, s)
		}
		return lists[key]
	}
	out := make([]*big.Rat, len(m.States))
	for _, s := range all {
		lowest := make([]*big.Rat, len(m.States))
		for _, other := range all {
			for i, a := range worthOf(merge(m, s, other)) {
				if lowest[i] == nil || a.Cmp(lowest[i]) < 0 {
					lowest[i] = a
				}
			}
		}
		for i, a := range lowest {
			if out[i] == nil || a.Cmp(out[i]) > 0 {
				out[i] = a
			}
		}
	}
	return out
}

// stepsOf returns the values of the game that ends after n steps.
func stepsOf(m api.Model, factor api.Num, n int) []*big.Rat {
	now := zeros(len(m.States))
	for range n {
		next := zeros(len(m.States))
		for i, state := range m.States {
			_, next[i] = bestYield(state, factor, now)
		}
		now = next
	}
	return now
}
