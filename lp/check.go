package lp

import (
	"dicebox/api"
	"dicebox/exact"
)

// isCorrect reports whether r is a correct result for the valid problem p.
func isCorrect(p Problem, r Result) bool {
	noValue := r.Value == api.Num{}
	switch r.Kind {
	case Infeasible:
		return noValue && len(r.X) == 0 && len(r.Ray) == 0 && provesNone(p, r.Y)
	case Unbounded:
		return noValue && len(r.Y) == 0 && isFeasible(p, r.X) && isRay(p, r.Ray)
	case Optimal:
		return len(r.Ray) == 0 && isOptimum(p, r)
	}
	return false
}

// isPositive reports whether x consists of n valid numbers that are at least 0.
func isPositive(x []api.Num, n int) bool {
	if len(x) != n || !isVector(x) {
		return false
	}
	for _, number := range x {
		if number.Top < 0 {
			return false
		}
	}
	return true
}

// isFeasible reports whether x is a feasible vector.
func isFeasible(p Problem, x []api.Num) bool {
	if !isPositive(x, len(p.Goal)) {
		return false
	}
	for i, row := range p.Rows {
		if exact.Dot(row, x).Cmp(exact.Of(p.Right[i])) > 0 {
			return false
		}
	}
	return true
}

// isRay reports whether multiples of x can be added to each feasible vector, and increase its worth.
func isRay(p Problem, x []api.Num) bool {
	if !isPositive(x, len(p.Goal)) {
		return false
	}
	for _, row := range p.Rows {
		if exact.Dot(row, x).Sign() > 0 {
			return false
		}
	}
	return exact.Dot(p.Goal, x).Sign() > 0
}

// column returns the numbers of the rows at position j.
func column(p Problem, j int) []api.Num {
	out := make([]api.Num, len(p.Rows))
	for i, row := range p.Rows {
		out[i] = row[j]
	}
	return out
}

// provesNone reports whether the rows, multiplied by y, contradict each other.
func provesNone(p Problem, y []api.Num) bool {
	if !isPositive(y, len(p.Rows)) {
		return false
	}
	for j := range p.Goal {
		if exact.Dot(column(p, j), y).Sign() < 0 {
			return false
		}
	}
	return exact.Dot(p.Right, y).Sign() < 0
}

// isOptimum reports whether X is feasible with the worth Value, and the rows, multiplied by Y, show
// that there is no greater worth.
func isOptimum(p Problem, r Result) bool {
	if !isVector([]api.Num{r.Value}) || !isFeasible(p, r.X) || !isPositive(r.Y, len(p.Rows)) {
		return false
	}
	for j, goal := range p.Goal {
		if exact.Dot(column(p, j), r.Y).Cmp(exact.Of(goal)) < 0 {
			return false
		}
	}
	value := exact.Of(r.Value)
	return exact.Dot(p.Goal, r.X).Cmp(value) == 0 && exact.Dot(p.Right, r.Y).Cmp(value) == 0
}
