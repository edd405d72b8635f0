package chain

import (
	"dicebox/api"
	"dicebox/exact"
	"dicebox/graph"
	"dicebox/linear"
	"dicebox/matrix"
	"dicebox/model"
	"dicebox/num"
	"slices"
)

// equation returns the factors of the numbers of all states, and what the sum of their products is.
type equation func() ([]api.Num, api.Num)

// stepEquation is the equation: the number of state s among n is a constant plus the sum of the
// chances, each multiplied by the number of its state.
func stepEquation(n, s int, chances []api.Branch, constant int) ([]api.Num, api.Num) {
	factors := slices.Repeat([]api.Num{whole(0)}, n)
	factors[s] = whole(1)
	for _, branch := range chances {
		// this is the first change of a factor that is 0 or 1, so the result is valid
		factors[branch.To], _ = num.Sub(factors[branch.To], branch.Chance)
	}
	return factors, whole(constant)
}

// rows returns all factors and sums of the equations.
func rows(l []equation) ([][]api.Num, []api.Num) {
	left, right := make([][]api.Num, len(l)), make([]api.Num, len(l))
	for i, equation := range l {
		left[i], right[i] = equation()
	}
	return left, right
}

// solve returns the only solution of the equations, or ErrFull if it is not valid.
func solve(l []equation) ([]api.Num, api.Errno) {
	left, right := rows(l)
	_, out, e := matrix.Solve(left, right)
	return out, e
}

// solveExactly returns the only solution of the equations.
func solveExactly(l []equation) []exact.Rat {
	left, right := rows(l)
	table := make([][]exact.Rat, len(left))
	for i, row := range left {
		table[i] = exact.List(row)
	}
	out, _ := linear.Solve(table, exact.List(right))
	return out
}

// members returns for each of n states whether it belongs to one of the lists.
func members(n int, lists ...[]int) []bool {
	out := make([]bool, n)
	for _, l := range lists {
		for _, s := range l {
			out[s] = true
		}
	}
	return out
}

// Reach returns for each state the chance of reaching goal. It returns ErrArg if m or goal is not
// valid, ErrKind unless m is a chain, and ErrFull if a chance is not valid.
func Reach(m api.Model, goal []int) ([]api.Num, api.Errno) {
	if e := checkSet(m, goal); e != api.OK {
		return nil, e
	}
	n := len(m.States)
	possible, _ := graph.To(m, goal)
	inGoal, isPossible := members(n, goal), members(n, possible)
	l := make([]equation, n)
	for s := range l {
		l[s] = func() ([]api.Num, api.Num) {
			switch {
			case inGoal[s]:
				return stepEquation(n, s, nil, 1)
			case !isPossible[s]:
				return stepEquation(n, s, nil, 0)
			}
			return stepEquation(n, s, branches(m, s), 0)
		}
	}
	return solve(l)
}

// unsure returns the states from which the chance of reaching goal is less than 1: those that lead,
// without passing through goal, to a state from which goal cannot be reached.
func unsure(m api.Model, goal []int) []int {
	possible, _ := graph.To(m, goal)
	isPossible := members(len(m.States), possible)
	var lost []int
	for s, is := range isPossible {
		if !is {
			lost = append(lost, s)
		}
	}
	stopped, _ := model.Goal(m, goal)
	out, _ := graph.To(stopped, lost)
	return out
}

// Time returns for each state the expected number of steps before the first state of goal. It returns
// ErrArg if m or goal is not valid, ErrKind unless m is a chain, and ErrFull if a number is not
// valid.
func Time(m api.Model, goal []int) ([]Value, api.Errno) {
	if e := checkSet(m, goal); e != api.OK {
		return nil, e
	}
	n := len(m.States)
	isInfinite, inGoal := members(n, unsure(m, goal)), members(n, goal)
	l := make([]equation, n)
	for s := range l {
		l[s] = func() ([]api.Num, api.Num) {
			if isInfinite[s] || inGoal[s] {
				return stepEquation(n, s, nil, 0)
			}
			return stepEquation(n, s, branches(m, s), 1)
		}
	}
	numbers, e := solve(l)
	if e != api.OK {
		return nil, e
	}
	return values(numbers, isInfinite), api.OK
}

// values returns the numbers as values; some are infinite.
func values(numbers []api.Num, isInfinite []bool) []Value {
	out := make([]Value, len(numbers))
	for i, number := range numbers {
		if isInfinite[i] {
			out[i] = Value{Inf: true}
		} else {
			out[i] = Value{Num: number}
		}
	}
	return out
}

// visits returns the equations of the expected numbers of visits of a path from s. The number of a state
// in a bottom component, which may be infinite, is 0 in them.
func visits(m api.Model, bottom [][]int, s int) []equation {
	n := len(m.States)
	inBottom := members(n, bottom...)
	before := incoming(m)
	l := make([]equation, n)
	for t := range l {
		l[t] = func() ([]api.Num, api.Num) {
			switch {
			case inBottom[t]:
				return stepEquation(n, t, nil, 0)
			case t == s:
				return stepEquation(n, t, before[t], 1)
			}
			return stepEquation(n, t, before[t], 0)
		}
	}
	return l
}

// Visits returns for each state the expected number of positions of a path from s with this state. It
// returns ErrArg if m is not valid or s is not a state of it, ErrKind unless m is a chain, and
// ErrFull if a number is not valid.
func Visits(m api.Model, s int) ([]Value, api.Errno) {
	if e := checkState(m, s); e != api.OK {
		return nil, e
	}
	bottom, _ := graph.Bottom(m)
	numbers, e := solve(visits(m, bottom, s))
	if e != api.OK {
		return nil, e
	}
	reached, _ := graph.From(m, []int{s})
	isInfinite := members(len(m.States), bottom...)
	isReached := members(len(m.States), reached)
	for t := range isInfinite {
		isInfinite[t] = isInfinite[t] && isReached[t]
	}
	return values(numbers, isInfinite), api.OK
}
