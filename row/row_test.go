package row

import (
	"dicebox/api"
	"dicebox/exact"
	"math/rand"
	"slices"
	"testing"
)

// ratio returns the number top / low.
func ratio(top, low int) exact.Rat { return exact.Ratio(exact.Whole(top), exact.Whole(low)) }

// list returns the numbers top / 6.
func list(tops ...int) []exact.Rat {
	var out []exact.Rat
	for _, top := range tops {
		out = append(out, ratio(top, 6))
	}
	return out
}

func equal(l, m []exact.Rat) bool {
	return slices.EqualFunc(l, m, func(a, b exact.Rat) bool { return a.Cmp(b) == 0 })
}

// even returns a choice that leads to each of the states with the same chance.
func even(to ...int) api.Choice {
	out := api.Choice{Reward: api.Num{Top: 0, Low: 1}}
	for _, t := range to {
		out.Branches = append(out.Branches, api.Branch{To: t, Chance: api.Num{Top: 1, Low: len(to)}})
	}
	return out
}

func TestAt(t *testing.T) {
	x := list(1, 2, 6, -3)
	r := Of(even(1, 2), ratio(-1, 7), ratio(1, 2))
	if got := r.At(x, ratio(1, 1)); got.Cmp(ratio(-1, 7).Add(ratio(1, 3))) != 0 {
		t.Errorf("%v", got)
	}
	whole, scale := exact.Scaled(x)
	if got := r.At(whole, scale); got.Cmp(ratio(-6, 7).Add(ratio(2, 1))) != 0 {
		t.Errorf("%v", got)
	}
}

func TestBest(t *testing.T) {
	x := list(1, 2, 6, -3)
	var rows []Row
	for _, c := range []api.Choice{even(0, 1), even(2, 3), even(0, 1), even(0, 1, 2), even(3), even(0, 1, 2), even(3)} {
		rows = append(rows, Of(c, ratio(1, 3), ratio(1, 1)))
	}
	greater := func(sign int) bool { return sign > 0 }
	less := func(sign int) bool { return sign < 0 }
	if i, number := Best(greater, x, ratio(1, 1), rows...); i != 3 || number.Cmp(ratio(5, 6)) != 0 {
		t.Errorf("%d %v", i, number)
	}
	if i, number := Best(less, x, ratio(1, 1), rows...); i != 4 || number.Cmp(ratio(-1, 6)) != 0 {
		t.Errorf("%d %v", i, number)
	}
	if i, number := Best(less, x, ratio(1, 1), rows[0], rows[0]); i != 0 || number.Cmp(ratio(7, 12)) != 0 {
		t.Errorf("%d %v", i, number)
	}
}

// TestSolve: the numbers of the unknown states are those that result from their rows, and the others remain.
func TestSolve(t *testing.T) {
	r := rand.New(rand.NewSource(1))
	for range 500 {
		n := r.Intn(7) + 1
		x := make([]exact.Rat, n)
		var unknown []int
		var rows []Row
		for s := range n {
			x[s] = ratio(r.Intn(20)-10, 7)
			if r.Intn(3) == 0 {
				continue
			}
			unknown = append(unknown, s)
			to := r.Perm(n)[:r.Intn(min(n, 4))+1]
			rows = append(rows, Of(even(to...), ratio(r.Intn(9)-4, 3), ratio(r.Intn(8), 9)))
		}
		before := slices.Clone(x)
		Solve(x, unknown, rows)
		for s := range n {
			want := before[s]
			if i, found := slices.BinarySearch(unknown, s); found {
				want = rows[i].At(x, ratio(1, 1))
			}
			if want.Cmp(x[s]) != 0 {
				t.Fatalf("state %d: %v instead of %v", s, x[s], want)
			}
		}
	}
}
