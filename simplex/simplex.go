// Package simplex optimizes linear goals with numbers of any size.
package simplex

import "dicebox/exact"

// The kinds of a result.
const (
	Infeasible = iota
	Unbounded
	Optimal
)

// Problem asks for the feasible vector of the greatest worth. A vector is feasible if its numbers
// are at least 0 and their sum, weighted with a row, is at most the number of Right, for each row.
type Problem struct {
	Rows        [][]exact.Rat
	Right, Goal []exact.Rat
}

// Result is the answer to a problem. Value and X, the vector, are proved by Y if Kind is Optimal; Y
// proves that there is no feasible vector if it is Infeasible; X and Ray prove that worths are
// unbounded if it is Unbounded.
type Result struct {
	Kind      int
	Value     exact.Rat
	X, Y, Ray []exact.Rat
}

// Maximum returns the answer to p, and whether it has found one: it gives up once the common lower number
// of its table has more than maxBits binary digits, unless maxBits is 0.
func Maximum(p Problem, maxBits int) (Result, bool) {
	t := newTable(p, maxBits)
	kind, at := t.solve()
	if kind == tooLong {
		return Result{}, false
	}
	return t.result(kind, at), true
}

// result returns the result that the table shows: of its kind, for the row or column at.
func (t *table) result(kind, at int) Result {
	switch kind {
	case Infeasible:
		return Result{Kind: kind, Y: t.contradiction(at)}
	case Unbounded:
		return Result{Kind: kind, X: t.vector(), Ray: t.ray(at)}
	}
	worth := t.worth()
	return Result{Kind: kind, Value: t.worthOf(worth[len(t.free)]), X: t.vector(), Y: t.bound()}
}
