package chain

import (
	"dicebox/api"
	"math/big"
	"math/rand"
	"slices"
	"testing"
)

// wideOf returns a number of the standard library, with which the tests compare.
func wideOf(a api.Num) *big.Rat { return big.NewRat(int64(a.Top), int64(a.Low)) }

// ratio returns the number top / low in lowest terms.
func ratio(top, low int) api.Num {
	a, b := low, max(top, -top)
	for b != 0 {
		a, b = b, a%b
	}
	return api.Num{Top: top / a, Low: low / a}
}

// numOf returns a valid number, or whether there is none.
func numOf(a *big.Rat) (api.Num, bool) {
	limit := big.NewInt(api.MaxNum)
	if a.Num().CmpAbs(limit) > 0 || a.Denom().Cmp(limit) > 0 {
		return api.Num{}, false
	}
	return api.Num{Top: int(a.Num().Int64()), Low: int(a.Denom().Int64())}, true
}

// compare checks that got consists of the numbers of want, or that the error is ErrFull if one of them
// is not valid. It reports whether all are valid.
func compare(t *testing.T, name string, got []api.Num, e api.Errno, want []*big.Rat) bool {
	t.Helper()
	var numbers []api.Num
	for _, a := range want {
		number, valid := numOf(a)
		if !valid {
			if e != api.ErrFull || len(got) != 0 {
				t.Fatalf("%s: %v %d instead of ErrFull", name, got, e)
			}
			return false
		}
		numbers = append(numbers, number)
	}
	if e != api.OK || !slices.Equal(got, numbers) {
		t.Fatalf("%s: %v %d instead of %v", name, got, e, numbers)
	}
	return true
}

// compareValues is compare for values; nil stands for an infinite one.
func compareValues(t *testing.T, name string, got []Value, e api.Errno, want []*big.Rat) bool {
	t.Helper()
	var numbers []api.Num
	var finite []*big.Rat
	for i, a := range want {
		switch {
		case a != nil:
			finite = append(finite, a)
			if i < len(got) {
				numbers = append(numbers, got[i].Num)
			}
		case e == api.OK && (i >= len(got) || got[i] != Value{Inf: true}):
			t.Fatalf("%s: value %d of %v is not infinite", name, i, got)
		}
		if a != nil && i < len(got) && got[i].Inf {
			t.Fatalf("%s: value %d of %v is infinite", name, i, got)
		}
	}
	if e == api.OK && len(got) != len(want) {
		t.Fatalf("%s: %v", name, got)
	}
	return compare(t, name, numbers, e, finite)
}

// chances returns the chance of each step.
func chances(m api.Model) [][]*big.Rat {
	out := make([][]*big.Rat, len(m.States))
	for s, state := range m.States {
		out[s] = zeros(len(m.States))
		for _, b := range state.Choices[0].Branches {
			out[s][b.To] = wideOf(b.Chance)
		}
	}
	return out
}

func zeros(n int) []*big.Rat {
	out := make([]*big.Rat, n)
	for i := range out {
		out[i] = new(big.Rat)
	}
	return out
}

// leads reports for each pair of states whether a path leads from the first one to the second one.
func leads(p [][]*big.Rat) [][]bool {
	n := len(p)
	out := make([][]bool, n)
	for i := range n {
		out[i] = make([]bool, n)
		for j := range n {
			out[i][j] = i == j || p[i][j].Sign() > 0
		}
	}
	for k := range n {
		for i := range n {
			for j := range n {
				out[i][j] = out[i][j] || out[i][k] && out[k][j]
			}
		}
	}
	return out
}

// product returns the row x times the table p.
func product(x []*big.Rat, p [][]*big.Rat) []*big.Rat {
	out := zeros(len(p))
	for s, row := range p {
		for j, chance := range row {
			out[j].Add(out[j], new(big.Rat).Mul(x[s], chance))
		}
	}
	return out
}

// gauss returns the only solution of a x = b.
func gauss(t *testing.T, a [][]*big.Rat, b []*big.Rat) []*big.Rat {
	t.Helper()
	n := len(b)
	table := make([][]*big.Rat, n)
	for i := range table {
		for _, x := range append(slices.Clone(a[i]), b[i]) {
			table[i] = append(table[i], new(big.Rat).Set(x))
		}
	}
	for j := range n {
		lead := slices.IndexFunc(table[j:], func(row []*big.Rat) bool { return row[j].Sign() != 0 })
		if lead < 0 {
			t.Fatal("the oracle has no unique solution")
		}
		table[j], table[j+lead] = table[j+lead], table[j]
		factor := new(big.Rat).Inv(table[j][j])
		for _, x := range table[j] {
			x.Mul(x, factor)
		}
		for i := range table {
			if i == j || table[i][j].Sign() == 0 {
				continue
			}
			factor := new(big.Rat).Set(table[i][j])
			for k, x := range table[i] {
				x.Sub(x, new(big.Rat).Mul(factor, table[j][k]))
			}
		}
	}
	out := make([]*big.Rat, n)
	for i, row := range table {
		out[i] = row[n]
	}
	return out
}

// sampleChances returns n chances with the sum 1; all lower numbers are divisors of low.
func sampleChances(r *rand.Rand, n, low int) []api.Num {
	cuts := []int{0, low}
	for len(cuts) <= n {
		cut := 1 + r.Intn(low-1)
		if !slices.Contains(cuts, cut) {
			cuts = append(cuts, cut)
		}
	}
	slices.Sort(cuts)
	var out []api.Num
	for i := range n {
		out = append(out, ratio(cuts[i+1]-cuts[i], low))
	}
	return out
}

// sample returns a chain with n states in which each state leads to at most three others. The lower numbers of
// the chances are divisors of one of lows.
func sample(r *rand.Rand, n int, lows ...int) api.Model {
	var out api.Model
	for i := range n {
		l := r.Perm(n)[:r.Intn(min(n, 3))+1]
		slices.Sort(l)
		choice := api.Choice{Reward: ratio(r.Intn(41)-20, 1)}
		if len(lows) > 1 {
			choice.Reward = ratio(r.Intn(41)-20, lows[r.Intn(len(lows))])
		}
		for j, chance := range sampleChances(r, len(l), lows[r.Intn(len(lows))]) {
			choice.Branches = append(choice.Branches, api.Branch{To: l[j], Chance: chance})
		}
		out.States = append(out.States, api.State{Owner: r.Intn(2), Mark: i, Choices: []api.Choice{choice}})
	}
	return out
}

// subset returns a set of states; sometimes an empty one.
func subset(r *rand.Rand, n int) []int {
	l := r.Perm(n)[:r.Intn(min(n, 3)+1)]
	slices.Sort(l)
	return l
}

// samples calls try with chains: plain ones, and such with long numbers.
func samples(count int, try func(r *rand.Rand, m api.Model, plain bool)) {
	r := rand.New(rand.NewSource(int64(count)))
	for i := range count {
		n := r.Intn(8) + 1
		switch i % 4 {
		case 0, 1:
			try(r, sample(r, n, 12), true)
		case 2:
			try(r, sample(r, n, 12, 7, 1000, 1<<20), false)
		case 3:
			try(r, sample(r, n, 3, 1<<20, 1<<40-87, 1<<60), false)
		}
	}
}
