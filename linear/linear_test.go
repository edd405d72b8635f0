package linear

import (
	"dicebox/api"
	"dicebox/exact"
	"math/rand"
	"testing"
)

func of(top, low int) exact.Rat { return exact.Ratio(exact.Whole(top), exact.Whole(low)) }

// sample returns a number with short or long parts; often 0.
func sample(r *rand.Rand, long bool) exact.Rat {
	switch {
	case r.Intn(3) == 0:
		return exact.Rat{}
	case long:
		return of(r.Intn(2*api.MaxNum)-api.MaxNum, r.Intn(api.MaxNum)+1).Mul(of(r.Intn(api.MaxNum), r.Intn(api.MaxNum)+1))
	}
	return of(r.Intn(21)-10, r.Intn(4)+1)
}

// apply returns the sums of the products of each row with x.
func apply(a [][]exact.Rat, x []exact.Rat) []exact.Rat {
	out := make([]exact.Rat, len(a))
	for i, row := range a {
		for j, number := range row {
			out[i] = out[i].Add(number.Mul(x[j]))
		}
	}
	return out
}

// isRegular reports whether no column of a can be cleared entirely (Gauss, with exact numbers).
func isRegular(a [][]exact.Rat) bool {
	n := len(a)
	table := make([][]exact.Rat, n)
	for i, row := range a {
		table[i] = append([]exact.Rat(nil), row...)
	}
	for j := range n {
		lead := j
		for lead < n && table[lead][j].Sign() == 0 {
			lead++
		}
		if lead == n {
			return false
		}
		table[j], table[lead] = table[lead], table[j]
		for i := j + 1; i < n; i++ {
			factor := table[i][j].Quo(table[j][j])
			for k := range n {
				table[i][k] = table[i][k].Sub(factor.Mul(table[j][k]))
			}
		}
	}
	return true
}

func TestSolve(t *testing.T) {
	r := rand.New(rand.NewSource(1))
	solved, refused := 0, 0
	for round := range 600 {
		n := round % 7
		a := make([][]exact.Rat, n)
		x := make([]exact.Rat, n)
		for i := range a {
			for range n {
				a[i] = append(a[i], sample(r, round%3 == 0))
			}
			x[i] = sample(r, round%5 == 0)
		}
		b := apply(a, x)
		got, found := Solve(a, b)
		if found != isRegular(a) {
			t.Fatalf("%v: %t", a, found)
		}
		if !found {
			refused++
			continue
		}
		solved++
		for i := range x {
			if got[i].Cmp(x[i]) != 0 {
				t.Fatalf("%v %v: %v instead of %v", a, b, got, x)
			}
		}
	}
	if solved < 300 || refused < 50 {
		t.Errorf("%d solved, %d refused", solved, refused)
	}
}

// TestLong: each number of the solution is as long as all rows together.
func TestLong(t *testing.T) {
	r := rand.New(rand.NewSource(2))
	n := 12
	a, b := make([][]exact.Rat, n), make([]exact.Rat, n)
	for i := range a {
		a[i] = make([]exact.Rat, n)
		for range 3 {
			a[i][r.Intn(n)] = sample(r, true)
		}
		a[i][i] = of(api.MaxNum-i, 3*i+1)
		b[i] = of(api.MaxNum-7*i, i+1)
	}
	got, found := Solve(a, b)
	if !found {
		t.Fatal("no solution")
	}
	for i, sum := range apply(a, got) {
		if sum.Cmp(b[i]) != 0 {
			t.Errorf("row %d", i)
		}
	}
	most := 0
	for _, x := range got {
		most = max(most, x.Low().Bits())
	}
	if most < 1000 {
		t.Errorf("only %d bits", most)
	}
}

// TestDivisible: the determinant is divided by the first primes that are tried, but is not 0.
func TestDivisible(t *testing.T) {
	product := exact.Whole(1)
	for _, below := range []int{57, 87, 117} {
		product = product.Mul(exact.Unsigned(1<<62 - uint64(below)))
	}
	a := [][]exact.Rat{{exact.Ratio(product, exact.Whole(5)), of(1, 1)}, {of(0, 1), of(2, 1)}}
	x := []exact.Rat{of(3, 7), of(-1, 9)}
	got, found := Solve(a, apply(a, x))
	if !found || got[0].Cmp(x[0]) != 0 || got[1].Cmp(x[1]) != 0 {
		t.Errorf("%v %t", got, found)
	}
}

func TestNoSolution(t *testing.T) {
	one, zero := of(1, 1), exact.Rat{}
	for _, a := range [][][]exact.Rat{{{zero}}, {{one, one}, {one, one}}, {{one, zero}, {zero, zero}}} {
		for _, right := range []exact.Rat{zero, one} {
			b := []exact.Rat{right, zero}[:len(a)]
			if x, found := Solve(a, b); found || x != nil {
				t.Errorf("%v %v: %v", a, b, x)
			}
		}
	}
	if x, found := Solve(nil, nil); !found || len(x) != 0 {
		t.Errorf("%v %t", x, found)
	}
}
