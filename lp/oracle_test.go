package lp

import (
	"dicebox/api"
	"math/big"
	"math/rand"
)

// of returns the number top / low, which is valid as it stands.
func of(top, low int) api.Num { return api.Num{Top: top, Low: low} }

// row returns a row of integers.
func row(l ...int) []api.Num {
	out := make([]api.Num, len(l))
	for i, n := range l {
		out[i] = of(n, 1)
	}
	return out
}

// reduced returns top / low, reduced.
func reduced(top, low int) api.Num {
	x := big.NewRat(int64(top), int64(low))
	return of(int(x.Num().Int64()), int(x.Denom().Int64()))
}

func wide(a api.Num) *big.Rat { return big.NewRat(int64(a.Top), int64(a.Low)) }

// sum returns the sum of the products of two lists of the same length.
func sum(l, m []api.Num) *big.Rat {
	out := new(big.Rat)
	for i := range l {
		out.Add(out, new(big.Rat).Mul(wide(l[i]), wide(m[i])))
	}
	return out
}

func isValidNum(a api.Num) bool {
	return a.Low >= 1 && a.Low <= api.MaxNum && a.Top >= -api.MaxNum && a.Top <= api.MaxNum && reduced(a.Top, a.Low) == a
}

// areValid reports whether l consists of n valid numbers that are at least 0.
func areValid(l []api.Num, n int) bool {
	for _, a := range l {
		if !isValidNum(a) || a.Top < 0 {
			return false
		}
	}
	return len(l) == n
}

// isAnswer reports whether r is correct for p, by the definition and with the numbers of the standard
// library. At most one kind and one value can be correct for a problem.
func isAnswer(p Problem, r Result) bool {
	turned := make([][]api.Num, len(p.Goal))
	for j := range turned {
		for _, row := range p.Rows {
			turned[j] = append(turned[j], row[j])
		}
	}
	zero := new(big.Rat)
	proof := true // that the rows, multiplied by Y, are at least the goal, or 0
	if r.Kind != Unbounded {
		if !areValid(r.Y, len(p.Rows)) || len(r.Ray) != 0 {
			return false
		}
		for j, column := range turned {
			least := zero
			if r.Kind == Optimal {
				least = wide(p.Goal[j])
			}
			proof = proof && sum(column, r.Y).Cmp(least) >= 0
		}
	}
	if r.Kind == Infeasible {
		return proof && r.Value == api.Num{} && len(r.X) == 0 && sum(p.Right, r.Y).Cmp(zero) < 0
	}
	if !areValid(r.X, len(p.Goal)) {
		return false
	}
	for i, row := range p.Rows {
		proof = proof && sum(row, r.X).Cmp(wide(p.Right[i])) <= 0
	}
	if r.Kind == Optimal {
		if !isValidNum(r.Value) {
			return false
		}
		value := wide(r.Value)
		return proof && sum(p.Goal, r.X).Cmp(value) == 0 && sum(p.Right, r.Y).Cmp(value) == 0
	}
	if r.Kind != Unbounded || !areValid(r.Ray, len(p.Goal)) || r.Value != (api.Num{}) || len(r.Y) != 0 {
		return false
	}
	for _, row := range p.Rows {
		proof = proof && sum(row, r.Ray).Cmp(zero) <= 0
	}
	return proof && sum(p.Goal, r.Ray).Cmp(zero) > 0
}

// draw is a way to draw numbers of a problem.
type draw func(r *rand.Rand) api.Num

// smallDraws returns ways to draw integers of at most 1000 in absolute value.
func smallDraws() []draw {
	return []draw{
		func(r *rand.Rand) api.Num { return of(r.Intn(3)-1, 1) },
		func(r *rand.Rand) api.Num { return of(r.Intn(11)-3, 1) },
		func(r *rand.Rand) api.Num { return of(r.Intn(2001)-1000, 1) },
		func(r *rand.Rand) api.Num { return of(r.Intn(2)*2000-1000+r.Intn(3)*(r.Intn(2)), 1) },
	}
}

// otherDraws returns ways to draw fractions and long numbers.
func otherDraws() []draw {
	return []draw{
		func(r *rand.Rand) api.Num { return reduced(r.Intn(31)-9, r.Intn(12)+1) },
		func(r *rand.Rand) api.Num {
			return reduced(r.Intn(api.MaxNum)-r.Intn(api.MaxNum), r.Intn(api.MaxNum)+1)
		},
		func(r *rand.Rand) api.Num { return of(r.Intn(api.MaxNum)-r.Intn(api.MaxNum), 1) },
	}
}

func list(r *rand.Rand, n int, next draw) []api.Num {
	out := make([]api.Num, n)
	for i := range out {
		out[i] = next(r)
	}
	return out
}

// sample returns a problem with m rows and n columns.
func sample(r *rand.Rand, m, n int, next draw) Problem {
	p := Problem{Right: list(r, m, next), Goal: list(r, n, next)}
	for range m {
		p.Rows = append(p.Rows, list(r, n, next))
	}
	return p
}

// network returns a problem whose rows contain at most one 1 and one -1.
func network(r *rand.Rand, m, n, most int) Problem {
	whole := func(r *rand.Rand) api.Num { return of(r.Intn(2*most+1)-most, 1) }
	p := Problem{Right: list(r, m, whole), Goal: list(r, n, whole)}
	for range m {
		next := row(make([]int, n)...)
		if k := r.Intn(n + 1); k < n {
			next[k].Top = 1
		}
		if k := r.Intn(n + 1); k < n {
			next[k].Top = -1
		}
		p.Rows = append(p.Rows, next)
	}
	return p
}

// loosen makes all numbers of Right at least 0, so that 0 is feasible.
func loosen(p Problem) Problem {
	for i, a := range p.Right {
		p.Right[i].Top = max(a.Top, -a.Top)
	}
	return p
}

// clone returns a copy of p.
func clone(p Problem) Problem {
	out := Problem{Right: append([]api.Num{}, p.Right...), Goal: append([]api.Num{}, p.Goal...)}
	for _, row := range p.Rows {
		out.Rows = append(out.Rows, append([]api.Num{}, row...))
	}
	return out
}
