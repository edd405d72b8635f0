package mean

import (
	"dicebox/api"
	"dicebox/model"
	"math/big"
	"math/rand"
	"slices"
	"testing"
)

func both() []bool { return []bool{false, true} }

// read reads a model.
func read(text string) api.Model {
	m, e := model.Parse(text)
	if e != api.OK {
		panic(text)
	}
	return m
}

func number(n int) api.Num { return api.Num{Top: n, Low: 1} }

// wideOf returns a number of the standard library, with which the tests compare.
func wideOf(a api.Num) *big.Rat { return big.NewRat(int64(a.Top), int64(a.Low)) }

// numOf returns a valid number, or whether there is none.
func numOf(a *big.Rat) (api.Num, bool) {
	limit := big.NewInt(api.MaxNum)
	if a.Num().CmpAbs(limit) > 0 || a.Denom().Cmp(limit) > 0 {
		return api.Num{}, false
	}
	return api.Num{Top: int(a.Num().Int64()), Low: int(a.Denom().Int64())}, true
}

// ratio returns the number top / low in lowest terms.
func ratio(top, low int) api.Num {
	out, valid := numOf(big.NewRat(int64(top), int64(low)))
	if !valid {
		panic(top)
	}
	return out
}

// compare checks that got consists of the numbers of want, or that the error is ErrFull if one of them
// is not valid. It reports whether all are valid.
func compare(t *testing.T, name string, got []api.Num, e api.Errno, want []*big.Rat) bool {
	t.Helper()
	numbers := make([]api.Num, len(want))
	for i, a := range want {
		valid := false
		if numbers[i], valid = numOf(a); !valid {
			if e != api.ErrFull || len(got) != 0 {
				t.Fatalf("%s: %v %d instead of ErrFull", name, got, e)
			}
			return false
		}
	}
	if e != api.OK || !slices.Equal(got, numbers) {
		t.Fatalf("%s: %v %d instead of %v", name, got, e, numbers)
	}
	return true
}

// leading returns a choice with the same chance for each of the states, which need not be different.
func leading(reward api.Num, to ...int) api.Choice {
	out := api.Choice{Reward: reward}
	for s := range api.MaxStates {
		count := 0
		for _, t := range to {
			if s == t {
				count++
			}
		}
		if count > 0 {
			out.Branches = append(out.Branches, api.Branch{To: s, Chance: ratio(count, len(to))})
		}
	}
	return out
}

// kind says which models are sampled.
type kind struct {
	states, choices, near int
	chances               []int // the numbers of equal chances into which a choice may be divided
	rewards               func(r *rand.Rand) api.Num
}

// some returns a small integer.
func some(r *rand.Rand) api.Num { return number(r.Intn(7) - 3) }

// kinds returns kinds of models: plain ones, such that often fall into parts, and such with long numbers.
func kinds() []kind {
	wide := func(r *rand.Rand) api.Num { return ratio(r.Intn(1<<60)-1<<59, 1+r.Intn(1<<30)) }
	return []kind{
		{4, 3, 4, []int{1, 2, 3, 4}, some},
		{4, 3, 2, []int{1, 1, 2}, some},
		{5, 2, 1, []int{1, 2, 12}, some},
		{3, 3, 3, []int{1, 2, 7, 1<<20 + 7}, wide},
	}
}

// sample returns a model with at most k.states states. All choices lead to states near their own; some are equal.
func (k kind) sample(r *rand.Rand) api.Model {
	var out api.Model
	n := 1 + r.Intn(k.states)
	for s := range n {
		state := api.State{Owner: r.Intn(2), Mark: r.Intn(64)}
		for range 1 + r.Intn(k.choices) {
			from, to := max(s-k.near, 0), min(s+k.near+1, n)
			low := k.chances[r.Intn(len(k.chances))]
			c := api.Choice{Reward: k.rewards(r)}
			switch {
			case len(state.Choices) > 0 && r.Intn(6) == 0:
				c = copyOf(api.Model{States: []api.State{state}}).States[0].Choices[0]
			case low > 12:
				c.Branches = uneven(r, from, to, low)
			default:
				c = leading(c.Reward, spread(r, from, to, low)...)
			}
			state.Choices = append(state.Choices, c)
		}
		out.States = append(out.States, state)
	}
	return out
}

// spread returns count states from a range.
func spread(r *rand.Rand, from, to, count int) []int {
	out := make([]int, count)
	for i := range out {
		out[i] = from + r.Intn(to-from)
	}
	return out
}

// uneven returns branches to one or two states of a range, with chances whose lower number is low.
func uneven(r *rand.Rand, from, to, low int) []api.Branch {
	if to-from < 2 {
		return []api.Branch{{To: from, Chance: number(1)}}
	}
	at, part := from+r.Intn(to-from-1), 1+r.Intn(low-1)
	return []api.Branch{{To: at, Chance: ratio(part, low)}, {To: at + 1, Chance: ratio(low-part, low)}}
}

// samples calls try with models of all kinds.
func samples(count int, try func(r *rand.Rand, m api.Model)) {
	r := rand.New(rand.NewSource(int64(count)))
	l := kinds()
	for i := range count {
		try(r, l[i%len(l)].sample(r))
	}
}

// copyOf returns a model that shares no memory with m.
func copyOf(m api.Model) api.Model {
	out := api.Model{States: slices.Clone(m.States)}
	for i, state := range out.States {
		out.States[i].Choices = slices.Clone(state.Choices)
		for j, c := range state.Choices {
			out.States[i].Choices[j].Branches = slices.Clone(c.Branches)
		}
	}
	return out
}

// withRewards returns m with other rewards.
func withRewards(m api.Model, change func(s int, reward api.Num) api.Num) api.Model {
	out := copyOf(m)
	for s, state := range out.States {
		for i, c := range state.Choices {
			state.Choices[i].Reward = change(s, c.Reward)
		}
	}
	return out
}

// strategies returns all strategies that take only the given choices of each state.
func strategies(choices [][]int) [][]int {
	out := [][]int{nil}
	for _, l := range choices {
		var longer [][]int
		for _, s := range out {
			for _, c := range l {
				longer = append(longer, append(slices.Clone(s), c))
			}
		}
		out = longer
	}
	return out
}

// allChoices returns all choices of each state.
func allChoices(m api.Model) [][]int {
	out := make([][]int, len(m.States))
	for s, state := range m.States {
		for i := range state.Choices {
			out[s] = append(out[s], i)
		}
	}
	return out
}

// reaches returns for each state which states a chain leads to from it, itself included.
func reaches(fixed api.Model) [][]bool {
	n := len(fixed.States)
	out := make([][]bool, n)
	for s := range out {
		out[s] = make([]bool, n)
		out[s][s] = true
		for range n {
			for i, is := range out[s] {
				for _, b := range fixed.States[i].Choices[0].Branches {
					out[s][b.To] = out[s][b.To] || is
				}
			}
		}
	}
	return out
}

// averagesOf returns the average of s from each state. They are the only numbers that are the mean of those of the next
// states, and in states to which each state returns that can be reached, the mean of the rewards by the
// stationary distribution, which is the only one that satisfies its equations.
func averagesOf(m api.Model, s []int) []*big.Rat {
	fixed, _ := model.Fix(m, s)
	reach := reaches(fixed)
	n := len(s)
	isFinal := func(i int) bool {
		for j, is := range reach[i] {
			if is && !reach[j][i] {
				return false
			}
		}
		return true
	}
	table := make([][]*big.Rat, n)
	for i := range table {
		table[i] = zeros(n + 1)
		table[i][i].SetInt64(1)
		if isFinal(i) {
			table[i][n] = stationary(fixed, reach[i])
			continue
		}
		for _, b := range fixed.States[i].Choices[0].Branches {
			table[i][b.To].Sub(table[i][b.To], wideOf(b.Chance))
		}
	}
	return solved(table)
}

// stationary returns the mean of the rewards by the stationary distribution of a bottom component.
func stationary(fixed api.Model, component []bool) *big.Rat {
	n := len(fixed.States)
	table := make([][]*big.Rat, n)
	for i := range table {
		table[i] = zeros(n + 1)
		table[i][i].SetInt64(1)
	}
	last := 0
	for i, is := range component {
		if !is {
			continue
		}
		last = i
		for _, b := range fixed.States[i].Choices[0].Branches {
			table[b.To][i].Sub(table[b.To][i], wideOf(b.Chance))
		}
	}
	for i, is := range component {
		table[last][i] = new(big.Rat)
		if is {
			table[last][i].SetInt64(1)
		}
	}
	table[last][n].SetInt64(1)
	sum := new(big.Rat)
	for i, share := range solved(table) {
		sum.Add(sum, share.Mul(share, wideOf(fixed.States[i].Choices[0].Reward)))
	}
	return sum
}

func zeros(n int) []*big.Rat {
	out := make([]*big.Rat, n)
	for i := range out {
		out[i] = new(big.Rat)
	}
	return out
}

// solved returns the only solution of equations; each row ends with the right side.
func solved(table [][]*big.Rat) []*big.Rat {
	for j := range table {
		lead := j + slices.IndexFunc(table[j:], func(row []*big.Rat) bool { return row[j].Sign() != 0 })
		table[j], table[lead] = table[lead], table[j]
		factor := new(big.Rat).Inv(table[j][j])
		for _, x := range table[j] {
			x.Mul(x, factor)
		}
		for i, row := range table {
			if i == j || row[j].Sign() == 0 {
				continue
			}
			factor := new(big.Rat).Set(row[j])
			for k, x := range row {
				x.Sub(x, new(big.Rat).Mul(factor, table[j][k]))
			}
		}
	}
	out := make([]*big.Rat, len(table))
	for i, row := range table {
		out[i] = row[len(table)]
	}
	return out
}

// better reports whether a is better than b.
func better(max bool, a, b *big.Rat) bool {
	if max {
		return a.Cmp(b) > 0
	}
	return a.Cmp(b) < 0
}

// bestOf returns the best average from each state of the given strategies.
func bestOf(m api.Model, l [][]int, max bool) []*big.Rat {
	var out []*big.Rat
	for _, s := range l {
		x := averagesOf(m, s)
		if out == nil {
			out = x
		}
		for i, a := range x {
			if better(max, a, out[i]) {
				out[i] = a
			}
		}
	}
	return out
}

// valuesOf returns the best average from each state, over all strategies.
func valuesOf(m api.Model, max bool) []*big.Rat {
	return bestOf(m, strategies(allChoices(m)), max)
}

// meanOf returns the mean of valid numbers by a choice.
func meanOf(c api.Choice, l []api.Num) *big.Rat {
	out := new(big.Rat)
	for _, b := range c.Branches {
		out.Add(out, new(big.Rat).Mul(wideOf(b.Chance), wideOf(l[b.To])))
	}
	return out
}

// isProof reports whether p is a proof with valid numbers, by the words of the document.
func isProof(m api.Model, max bool, p Proof) bool {
	n := len(m.States)
	if len(p.Value) != n || len(p.Bias) != n || len(p.Pick) != n {
		return false
	}
	for i, a := range append(slices.Clone(p.Value), p.Bias...) {
		if a.Low < 1 || a.Low > api.MaxNum || a.Top > api.MaxNum || a.Top < -api.MaxNum || new(big.Int).GCD(nil, nil, big.NewInt(int64(a.Top)), big.NewInt(int64(a.Low))).Int64() != 1 {
			return false
		}
		if i < n && (p.Pick[i] < 0 || p.Pick[i] >= len(m.States[i].Choices)) {
			return false
		}
	}
	for s, state := range m.States {
		value := wideOf(p.Value[s])
		own := new(big.Rat).Add(value, wideOf(p.Bias[s]))
		for i, c := range state.Choices {
			mean := meanOf(c, p.Value)
			sum := new(big.Rat).Add(wideOf(c.Reward), meanOf(c, p.Bias))
			keeps := mean.Cmp(value) == 0
			if better(max, mean, value) || keeps && better(max, sum, own) {
				return false
			}
			if i == p.Pick[s] && (!keeps || sum.Cmp(own) != 0) {
				return false
			}
		}
	}
	return true
}
