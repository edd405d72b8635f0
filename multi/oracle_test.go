package multi

import (
	"dicebox/api"
	"dicebox/model"
	"math/big"
	"math/rand"
	"slices"
	"testing"
)

// read reads a model.
func read(text string) api.Model {
	m, e := model.Parse(text)
	if e != api.OK {
		panic(text)
	}
	return m
}

func number(n int) api.Num { return api.Num{Top: n, Low: 1} }

// wideOf returns a number of the standard library, with which the tests compare.
func wideOf(a api.Num) *big.Rat { return big.NewRat(int64(a.Top), int64(a.Low)) }

// wides returns numbers of the standard library.
func wides(l []api.Num) []*big.Rat {
	out := make([]*big.Rat, len(l))
	for i, a := range l {
		out[i] = wideOf(a)
	}
	return out
}

// numOf returns a valid number, or whether there is none.
func numOf(a *big.Rat) (api.Num, bool) {
	limit := big.NewInt(api.MaxNum)
	if a.Num().CmpAbs(limit) > 0 || a.Denom().Cmp(limit) > 0 {
		return api.Num{}, false
	}
	return api.Num{Top: int(a.Num().Int64()), Low: int(a.Denom().Int64())}, true
}

// ratio returns the number top / low in lowest terms.
func ratio(top, low int) api.Num {
	out, valid := numOf(big.NewRat(int64(top), int64(low)))
	if !valid {
		panic(top)
	}
	return out
}

// numbers returns numbers with the same lower number, in lowest terms.
func numbers(low int, tops ...int) []api.Num {
	out := make([]api.Num, len(tops))
	for i, top := range tops {
		out[i] = ratio(top, low)
	}
	return out
}

// draw returns n chances with the sum 1 that are multiples of 1 / low; the first of them are greater than 0.
func draw(r *rand.Rand, n, low int) []api.Num {
	tops := make([]int, n)
	rest := low
	for i := range tops {
		tops[i] = rest
		if i < n-1 {
			tops[i] = min(rest, r.Intn(rest+1))
			if i == 0 || r.Intn(3) > 0 {
				tops[i] = min(rest, 1+r.Intn(max(1, rest/2)))
			}
		}
		rest -= tops[i]
	}
	return numbers(low, tops...)
}

// leading returns a choice that leads to states with chances; those of equal states are added, and those of 0 omitted.
func leading(to []int, chances []api.Num) api.Choice {
	sums := map[int]*big.Rat{}
	for i, s := range to {
		if sums[s] == nil {
			sums[s] = new(big.Rat)
		}
		sums[s].Add(sums[s], wideOf(chances[i]))
	}
	out := api.Choice{Reward: number(0)}
	for s := range api.MaxStates {
		if sum := sums[s]; sum != nil && sum.Sign() > 0 {
			chance, _ := numOf(sum)
			out.Branches = append(out.Branches, api.Branch{To: s, Chance: chance})
		}
	}
	return out
}

// staying returns a state whose only choice returns to it.
func staying(s int) api.State {
	return api.State{Choices: []api.Choice{leading([]int{s}, []api.Num{number(1)})}}
}

// sample returns a model with n states, most of which have several choices, and goals for it: the last states but one,
// which cannot be left, and sometimes others. All chances are multiples of 1 / low.
func sample(r *rand.Rand, n, count, low int) (api.Model, [][]int) {
	var m api.Model
	for range n {
		state := api.State{Owner: r.Intn(2), Mark: r.Intn(64)}
		for range 1 + r.Intn(3) {
			to := make([]int, 1+r.Intn(3))
			for i := range to {
				to[i] = r.Intn(n)
				if i > 0 && r.Intn(2) == 0 {
					to[i] = n - 1 - r.Intn(min(n, count+1))
				}
			}
			state.Choices = append(state.Choices, leading(to, draw(r, len(to), low)))
		}
		m.States = append(m.States, state)
	}
	var goals [][]int
	for s := n - 1; len(goals) < count; s-- {
		goals = append(goals, []int{s})
		if r.Intn(3) > 0 {
			m.States[s] = staying(s)
		}
	}
	rest := n - count
	if rest > 1 && r.Intn(4) > 0 {
		rest--
		m.States[rest] = staying(rest)
	}
	if rest > 1 && r.Intn(3) == 0 {
		goals[0] = []int{rest - 1, n - 1}
	}
	if r.Intn(20) == 0 {
		goals[count-1] = append([]int{0}, goals[count-1]...)
	}
	r.Shuffle(count, func(i, j int) { goals[i], goals[j] = goals[j], goals[i] })
	return m, goals
}

// trade returns a model whose first states weigh two goals against each other: each of their choices may lead to both
// goals, to a dead end, and to one of these states.
func trade(r *rand.Rand, n, low int) (api.Model, [][]int) {
	var m api.Model
	for range n {
		var state api.State
		for range 2 + r.Intn(3) {
			to := r.Perm(3)
			for i := range to {
				to[i] += n
			}
			to = append([]int{r.Intn(n)}, to...)
			state.Choices = append(state.Choices, leading(to, draw(r, len(to), low)))
		}
		m.States = append(m.States, state)
	}
	for s := range 3 {
		m.States = append(m.States, staying(n+s))
	}
	return m, [][]int{{n}, {n + 2}}
}

// samples calls try with small models and goals. If plain is true, results have to be valid for demands that are
// multiples of 1/12.
func samples(trials int, try func(r *rand.Rand, m api.Model, goals [][]int, plain bool)) {
	r := rand.New(rand.NewSource(int64(trials)))
	for i := range trials {
		count := []int{2, 2, 2, 1, 3, 3, 4}[i%7]
		switch {
		case i%4 < 2:
			m, goals := sample(r, 5, count, 12)
			try(r, m, goals, true)
		case i%4 == 2 && count == 2:
			states := 1 + r.Intn(3)
			m, goals := trade(r, states, 12)
			try(r, m, goals, states < 3)
		case i%4 == 2:
			m, goals := sample(r, count+3, count, 12)
			try(r, m, goals, false)
		default:
			m, goals := sample(r, count+1+r.Intn(3), count, []int{12, 1 << 20, 1<<58 - 27}[r.Intn(3)])
			try(r, m, goals, false)
		}
	}
}

// copyOf returns a model that shares no memory with m.
func copyOf(m api.Model) api.Model {
	out := api.Model{States: slices.Clone(m.States)}
	for i, state := range out.States {
		out.States[i].Choices = slices.Clone(state.Choices)
		for j, c := range state.Choices {
			out.States[i].Choices[j].Branches = slices.Clone(c.Branches)
		}
	}
	return out
}

// copies returns lists that share no memory with those of l.
func copies[T any](l [][]T) [][]T {
	var out [][]T
	for _, part := range l {
		out = append(out, slices.Clone(part))
	}
	return out
}

// pure returns the lottery that draws the choices of a strategy.
func pure(m api.Model, s []int) [][]api.Num {
	var out [][]api.Num
	for i, state := range m.States {
		chances := slices.Repeat([]api.Num{number(0)}, len(state.Choices))
		chances[s[i]] = number(1)
		out = append(out, chances)
	}
	return out
}

// randomLottery returns a lottery.
func randomLottery(r *rand.Rand, m api.Model, low int) [][]api.Num {
	var out [][]api.Num
	for _, state := range m.States {
		out = append(out, draw(r, len(state.Choices), low))
	}
	return out
}

// goalOf returns the number of the goal of a state, -1 if there is none.
func goalOf(goals [][]int, s int) int {
	return slices.IndexFunc(goals, func(goal []int) bool { return slices.Contains(goal, s) })
}

// endings returns the chances with which paths from each state end in a goal, for each goal. They are the only numbers
// that are the means of those of the next states, and 0 in states that do not lead to a goal.
func endings(m api.Model, goals [][]int, lottery [][]api.Num) [][]*big.Rat {
	n := len(m.States)
	steps := make([][]*big.Rat, n)
	hopeful := make([]bool, n)
	for s, state := range m.States {
		steps[s] = zeros(n)
		hopeful[s] = goalOf(goals, s) >= 0
		for i, c := range state.Choices {
			for _, b := range c.Branches {
				steps[s][b.To].Add(steps[s][b.To], new(big.Rat).Mul(wideOf(lottery[s][i]), wideOf(b.Chance)))
			}
		}
	}
	for range n {
		for s := range n {
			for t := range n {
				hopeful[s] = hopeful[s] || hopeful[t] && steps[s][t].Sign() > 0
			}
		}
	}
	var out [][]*big.Rat
	for g := range goals {
		table := make([][]*big.Rat, n)
		for s := range table {
			table[s] = zeros(n + 1)
			table[s][s].SetInt64(1)
			switch own := goalOf(goals, s); {
			case own == g:
				table[s][n].SetInt64(1)
			case own < 0 && hopeful[s]:
				for t, chance := range steps[s] {
					table[s][t].Sub(table[s][t], chance)
				}
			}
		}
		out = append(out, solved(table))
	}
	return out
}

// outcome returns the outcome of a lottery.
func outcome(m api.Model, goals [][]int, lottery [][]api.Num) []*big.Rat {
	var out []*big.Rat
	for _, chances := range endings(m, goals, lottery) {
		out = append(out, chances[0])
	}
	return out
}

func zeros(n int) []*big.Rat {
	out := make([]*big.Rat, n)
	for i := range out {
		out[i] = new(big.Rat)
	}
	return out
}

// solved returns the only solution of equations; each row ends with the right side.
func solved(table [][]*big.Rat) []*big.Rat {
	for j := range table {
		lead := j + slices.IndexFunc(table[j:], func(row []*big.Rat) bool { return row[j].Sign() != 0 })
		table[j], table[lead] = table[lead], table[j]
		factor := new(big.Rat).Inv(table[j][j])
		for _, x := range table[j] {
			x.Mul(x, factor)
		}
		for i, row := range table {
			if i == j || row[j].Sign() == 0 {
				continue
			}
			factor := new(big.Rat).Set(row[j])
			for k, x := range row {
				x.Sub(x, new(big.Rat).Mul(factor, table[j][k]))
			}
		}
	}
	out := make([]*big.Rat, len(table))
	for i, row := range table {
		out[i] = row[len(table)]
	}
	return out
}

// outcomes returns the outcomes of all strategies, without those that are equal to others. Choices of states where
// paths have ended do not matter.
func outcomes(m api.Model, goals [][]int) [][]*big.Rat {
	l := [][]int{nil}
	for s, state := range m.States {
		var longer [][]int
		for _, s0 := range l {
			for c := range state.Choices {
				if c == 0 || goalOf(goals, s) < 0 {
					longer = append(longer, append(slices.Clone(s0), c))
				}
			}
		}
		l = longer
	}
	var out [][]*big.Rat
	for _, s := range l {
		x := outcome(m, goals, pure(m, s))
		if !slices.ContainsFunc(out, func(y []*big.Rat) bool { return isEqual(x, y) }) {
			out = append(out, x)
		}
	}
	return out
}

// isEqual reports whether two lists contain the same numbers.
func isEqual(x, y []*big.Rat) bool {
	return slices.EqualFunc(x, y, func(a, b *big.Rat) bool { return a.Cmp(b) == 0 })
}

// isAtLeast reports whether each number of x is at least that of y.
func isAtLeast(x, y []*big.Rat) bool {
	for i, a := range x {
		if a.Cmp(y[i]) < 0 {
			return false
		}
	}
	return true
}

// worth returns the sum of the products of two lists.
func worth(weights, x []*big.Rat) *big.Rat {
	out := new(big.Rat)
	for i, a := range x {
		out.Add(out, new(big.Rat).Mul(weights[i], a))
	}
	return out
}

// greatestWorth returns the greatest worth of some outcomes.
func greatestWorth(weights []*big.Rat, l [][]*big.Rat) *big.Rat {
	out := worth(weights, l[0])
	for _, x := range l {
		if w := worth(weights, x); w.Cmp(out) > 0 {
			out = w
		}
	}
	return out
}

// isLotteryOf reports whether l is a lottery for m.
func isLotteryOf(m api.Model, l [][]api.Num) bool {
	if len(l) != len(m.States) {
		return false
	}
	for s, chances := range l {
		sum := new(big.Rat)
		for _, a := range chances {
			if !isNumber(a) || a.Top < 0 {
				return false
			}
			sum.Add(sum, wideOf(a))
		}
		if len(chances) != len(m.States[s].Choices) || sum.Cmp(big.NewRat(1, 1)) != 0 {
			return false
		}
	}
	return true
}

// isNumber reports whether a number is valid.
func isNumber(a api.Num) bool {
	return a.Low >= 1 && a.Low <= api.MaxNum && a.Top <= api.MaxNum && a.Top >= -api.MaxNum && new(big.Int).GCD(nil, nil, big.NewInt(int64(a.Top)), big.NewInt(int64(a.Low))).Int64() == 1
}

// between returns the point of the line from x to y whose number i is c, and whether there is one.
func between(x, y []*big.Rat, i int, c *big.Rat) ([]*big.Rat, bool) {
	low, high := new(big.Rat).Sub(c, x[i]), new(big.Rat).Sub(y[i], x[i])
	if high.Sign() == 0 || low.Sign() != high.Sign() || low.Cmp(high) == high.Sign() {
		return nil, false
	}
	part := low.Quo(low, high)
	out := make([]*big.Rat, len(x))
	for j := range x {
		out[j] = new(big.Rat).Sub(y[j], x[j])
		out[j].Add(x[j], out[j].Mul(out[j], part))
	}
	return out, true
}

// mostOf returns the greatest number g of the weighted means of outcomes for two goals whose other number is at
// least c, nil if there is none: that of an outcome, or of one between two of them.
func mostOf(l [][]*big.Rat, g int, c *big.Rat) *big.Rat {
	var out *big.Rat
	try := func(x []*big.Rat) {
		if x[1-g].Cmp(c) >= 0 && (out == nil || x[g].Cmp(out) > 0) {
			out = x[g]
		}
	}
	for _, x := range l {
		try(x)
		for _, y := range l {
			if z, found := between(x, y, 1-g, c); found {
				try(z)
			}
		}
	}
	return out
}

// cornersOf returns the outcomes that are not exceeded or equalled, in both numbers, by an other one or a weighted mean of
// others, in the order of their first numbers.
func cornersOf(l [][]*big.Rat) [][]*big.Rat {
	var out [][]*big.Rat
	for _, x := range l {
		others := slices.DeleteFunc(slices.Clone(l), func(y []*big.Rat) bool { return isEqual(x, y) })
		if most := mostOf(others, 1, x[0]); most == nil || most.Cmp(x[1]) < 0 {
			out = append(out, x)
		}
	}
	slices.SortFunc(out, func(x, y []*big.Rat) int { return x[0].Cmp(y[0]) })
	return out
}

// compare checks that got consists of the numbers of want, or that the error is ErrFull if one of them
// is not valid. It reports whether all are valid.
func compare(t *testing.T, name string, got []api.Num, e api.Errno, want []*big.Rat) bool {
	t.Helper()
	list := make([]api.Num, len(want))
	for i, a := range want {
		valid := false
		if list[i], valid = numOf(a); !valid {
			if e != api.ErrFull || len(got) != 0 {
				t.Fatalf("%s: %v %d instead of ErrFull", name, got, e)
			}
			return false
		}
	}
	if e != api.OK || !slices.Equal(got, list) {
		t.Fatalf("%s: %v %d instead of %v", name, got, e, list)
	}
	return true
}
