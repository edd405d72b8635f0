package matrix

import (
	"dicebox/api"
	"math/big"
	"math/rand"
)

// of returns the number top / low, which is valid as it stands.
func of(top, low int) api.Num { return api.Num{Top: top, Low: low} }

// row returns a row of integers.
func row(l ...int) []api.Num {
	out := make([]api.Num, len(l))
	for i, n := range l {
		out[i] = of(n, 1)
	}
	return out
}

// wide returns a as a table of numbers of the standard library, with which the tests compare.
func wide(a [][]api.Num) [][]*big.Rat {
	out := make([][]*big.Rat, len(a))
	for i, row := range a {
		for _, x := range row {
			out[i] = append(out[i], big.NewRat(int64(x.Top), int64(x.Low)))
		}
	}
	return out
}

// exactResult returns what a function must return whose result is the table a.
func exactResult(a [][]*big.Rat) ([][]api.Num, api.Errno) {
	bound := big.NewInt(api.MaxNum)
	out := make([][]api.Num, len(a))
	for i, row := range a {
		for _, x := range row {
			if x.Num().CmpAbs(bound) > 0 || x.Denom().Cmp(bound) > 0 {
				return nil, api.ErrFull
			}
			out[i] = append(out[i], of(int(x.Num().Int64()), int(x.Denom().Int64())))
		}
	}
	return out, api.OK
}

// exactProduct returns the product of a and b, which have the right numbers of rows and columns.
func exactProduct(a, b [][]*big.Rat, columns int) [][]*big.Rat {
	out := make([][]*big.Rat, len(a))
	for i := range a {
		for j := range columns {
			sum := new(big.Rat)
			for k := range b {
				sum.Add(sum, new(big.Rat).Mul(a[i][k], b[k][j]))
			}
			out[i] = append(out[i], sum)
		}
	}
	return out
}

// exactReduce returns the reduced form of a, the columns of its leading numbers, and the determinant
// if a is square.
func exactReduce(a [][]*big.Rat) ([][]*big.Rat, []int, *big.Rat) {
	var leads []int
	det := big.NewRat(1, 1)
	if len(a) == 0 {
		return a, nil, det
	}
	for j := range a[0] {
		next := len(leads)
		found := next
		for found < len(a) && a[found][j].Sign() == 0 {
			found++
		}
		if found == len(a) {
			det = new(big.Rat)
			continue
		}
		if found != next {
			a[next], a[found] = a[found], a[next]
			det.Neg(det)
		}
		lead := new(big.Rat).Set(a[next][j])
		det.Mul(det, lead)
		for _, x := range a[next] {
			x.Quo(x, lead)
		}
		for i := range a {
			factor := new(big.Rat).Set(a[i][j])
			for k := range a[i] {
				if i != next {
					a[i][k].Sub(a[i][k], new(big.Rat).Mul(factor, a[next][k]))
				}
			}
		}
		leads = append(leads, j)
	}
	return a, leads, det
}

// draw is a way to draw numbers of a matrix.
type draw func(r *rand.Rand) api.Num

// draws returns ways to draw small integers with many zeros, fractions, and numbers near the limit.
func draws() []draw {
	return []draw{
		func(r *rand.Rand) api.Num { return of(r.Intn(3)-1, 1) },
		func(r *rand.Rand) api.Num { return of(max(0, r.Intn(12)-6), 1) },
		func(r *rand.Rand) api.Num { return reduced(r.Intn(25)-12, r.Intn(12)+1) },
		func(r *rand.Rand) api.Num { return reduced(r.Intn(api.MaxNum)-r.Intn(api.MaxNum), r.Intn(3)+1) },
		func(r *rand.Rand) api.Num { return reduced(r.Intn(api.MaxNum), r.Intn(api.MaxNum)+1) },
	}
}

// reduced returns top / low, reduced.
func reduced(top, low int) api.Num {
	x := big.NewRat(int64(top), int64(low))
	return of(int(x.Num().Int64()), int(x.Denom().Int64()))
}

// sample returns a matrix with m rows and n columns. Often some rows are multiples of others.
func sample(r *rand.Rand, m, n int, next draw) [][]api.Num {
	out := make([][]api.Num, m)
	for i := range out {
		out[i] = make([]api.Num, n)
		if i > 0 && r.Intn(3) == 0 {
			copy(out[i], out[r.Intn(i)])
			continue
		}
		for j := range out[i] {
			out[i][j] = next(r)
		}
	}
	return out
}

// short returns a matrix whose reduced form has short numbers: sums of multiples of a few rows.
func short(r *rand.Rand, m, n, rank int) [][]api.Num {
	left, right := sample(r, m, rank, draws()[1]), sample(r, rank, n, draws()[0])
	out, _ := exactResult(exactProduct(wide(left), wide(right), n))
	for i := range out {
		if out[i] == nil {
			out[i] = []api.Num{}
		}
	}
	return out
}

// clone returns a copy of a.
func clone(a [][]api.Num) [][]api.Num {
	out := make([][]api.Num, len(a))
	for i, row := range a {
		out[i] = append([]api.Num{}, row...)
	}
	return out
}
