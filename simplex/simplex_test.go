package simplex

import (
	"dicebox/exact"
	"math/rand"
	"slices"
	"testing"
)

func whole(n int) exact.Rat { return exact.Ratio(exact.Whole(n), exact.Whole(1)) }

// sum returns the sum of the products of two lists.
func sum(l, m []exact.Rat) exact.Rat {
	var out exact.Rat
	for i := range l {
		out = out.Add(l[i].Mul(m[i]))
	}
	return out
}

// column returns the numbers of all rows at position j.
func column(p Problem, j int) []exact.Rat {
	var out []exact.Rat
	for _, row := range p.Rows {
		out = append(out, row[j])
	}
	return out
}

// isPositive reports whether l consists of n numbers that are at least 0.
func isPositive(l []exact.Rat, n int) bool {
	return len(l) == n && !slices.ContainsFunc(l, func(a exact.Rat) bool { return a.Sign() < 0 })
}

// isFeasible reports whether x is feasible if the numbers of Right are multiplied by factor.
func isFeasible(p Problem, x []exact.Rat, factor exact.Rat) bool {
	if !isPositive(x, len(p.Goal)) {
		return false
	}
	for i, row := range p.Rows {
		if sum(row, x).Cmp(p.Right[i].Mul(factor)) > 0 {
			return false
		}
	}
	return true
}

// isBound reports whether the rows, multiplied by y, are at least the goal, multiplied by factor.
func isBound(p Problem, y []exact.Rat, factor exact.Rat) bool {
	if !isPositive(y, len(p.Rows)) {
		return false
	}
	for j, goal := range p.Goal {
		if sum(column(p, j), y).Cmp(goal.Mul(factor)) < 0 {
			return false
		}
	}
	return true
}

// isAnswer reports whether r answers p, by the definitions.
func isAnswer(p Problem, r Result) bool {
	switch r.Kind {
	case Infeasible:
		return len(r.X)+len(r.Ray) == 0 && isBound(p, r.Y, whole(0)) && sum(p.Right, r.Y).Sign() < 0
	case Unbounded:
		return len(r.Y) == 0 && isFeasible(p, r.X, whole(1)) && isFeasible(p, r.Ray, whole(0)) && sum(p.Goal, r.Ray).Sign() > 0
	case Optimal:
		value := sum(p.Goal, r.X)
		return len(r.Ray) == 0 && isFeasible(p, r.X, whole(1)) && isBound(p, r.Y, whole(1)) && value.Cmp(r.Value) == 0 && sum(p.Right, r.Y).Cmp(value) == 0
	}
	return false
}

// list returns n numbers, long ones or integers near 0.
func list(r *rand.Rand, n int, long bool) []exact.Rat {
	out := make([]exact.Rat, n)
	for i := range out {
		out[i] = whole(r.Intn(11) - 3)
		if long {
			factor := exact.Ratio(exact.Whole(r.Intn(1<<62)), exact.Whole(1+r.Intn(1<<62)))
			out[i] = out[i].Mul(factor).Mul(factor).Mul(factor)
		}
	}
	return out
}

// sample returns a problem with m rows and n columns.
func sample(r *rand.Rand, m, n int, long bool) Problem {
	p := Problem{Right: list(r, m, long), Goal: list(r, n, long)}
	for range m {
		p.Rows = append(p.Rows, list(r, n, long))
	}
	return p
}

func TestMaximum(t *testing.T) {
	r := rand.New(rand.NewSource(1))
	var kinds [3]int
	for i := range 3000 {
		p := sample(r, r.Intn(6), r.Intn(6), i%3 == 0)
		out, found := Maximum(p, 0)
		if !found || !isAnswer(p, out) {
			t.Fatalf("%v: %v %v", p, out, found)
		}
		kinds[out.Kind]++
	}
	if slices.Min(kinds[:]) < 200 {
		t.Errorf("kinds %v", kinds)
	}
}

// TestLimit: a search whose numbers become too long is given up, and only such a one.
func TestLimit(t *testing.T) {
	r := rand.New(rand.NewSource(2))
	givenUp := 0
	for range 300 {
		p := sample(r, 6, 6, true)
		full, _ := Maximum(p, 0)
		out, found := Maximum(p, 3000)
		switch {
		case !found:
			givenUp++
			if out.Kind != 0 || len(out.X)+len(out.Y)+len(out.Ray) != 0 {
				t.Fatalf("%v: %v", p, out)
			}
		case out.Kind != full.Kind || !isAnswer(p, out):
			t.Fatalf("%v: %v", p, out)
		}
	}
	if givenUp < 10 || givenUp > 290 {
		t.Errorf("%d of 300", givenUp)
	}
}

// TestImpatient: the exchanges that always come to an end lead to correct results, too.
func TestImpatient(t *testing.T) {
	r := rand.New(rand.NewSource(6))
	for range 3000 {
		p := sample(r, r.Intn(8), r.Intn(8), false)
		table := newTable(p, 0)
		table.exchanges = patience * 100
		if out := table.result(table.solve()); !isAnswer(p, out) {
			t.Fatalf("%v: %v", p, out)
		}
	}
}

// TestPatience: after enough exchanges, a table no longer looks for the greatest gain.
func TestPatience(t *testing.T) {
	// each number is bounded by the one before, so that each of them needs an exchange
	var p Problem
	for i := range 40 {
		row := make([]exact.Rat, 40)
		row[i] = whole(1)
		if i > 0 {
			row[i-1] = whole(-1)
		}
		p = Problem{append(p.Rows, row), append(p.Right, whole(1000)), append(p.Goal, whole(1000))}
	}
	table := newTable(p, 0)
	table.solve()
	if n := table.exchanges; n < 40 || !table.isGreedy() {
		t.Errorf("%d exchanges", n)
	}
	if table.exchanges = patience * 80; table.isGreedy() {
		t.Error("still greedy")
	}
}
