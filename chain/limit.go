package chain

import (
	"dicebox/api"
	"dicebox/exact"
	"dicebox/graph"
	"slices"
)

// stationary returns the equations of the stationary distribution of a bottom component, with its
// states in order. As the other equations imply the last one, another one takes its place:
// that the sum is 1.
func stationary(m api.Model, component []int) []equation {
	part, _ := graph.Cut(m, component)
	n := len(component)
	before := incoming(part)
	l := make([]equation, n)
	for t := range l {
		l[t] = func() ([]api.Num, api.Num) {
			if t == n-1 {
				return slices.Repeat([]api.Num{whole(1)}, n), whole(1)
			}
			return stepEquation(n, t, before[t], 0)
		}
	}
	return l
}

// Stationary returns for each bottom component the distribution that is 0 outside of it and does not
// change with a step. It returns ErrArg if m is not valid, ErrKind unless it is a chain, and ErrFull
// if a distribution is not valid.
func Stationary(m api.Model) ([][]api.Num, api.Errno) {
	if e := check(m, func() bool { return true }); e != api.OK {
		return nil, e
	}
	bottom, _ := graph.Bottom(m)
	out := make([][]api.Num, len(bottom))
	for i, component := range bottom {
		shares, e := solve(stationary(m, component))
		if e != api.OK {
			return nil, e
		}
		out[i] = slices.Repeat([]api.Num{whole(0)}, len(m.States))
		for j, s := range component {
			out[i][s] = shares[j]
		}
	}
	return out, api.OK
}

// LongRun returns for each state the share of the positions of a long path from s at which it is
// expected. It returns ErrArg if m is not valid or s is not a state of it, ErrKind unless m is a
// chain, and ErrFull if a share is not valid. Chances and distributions on the way may be not valid.
func LongRun(m api.Model, s int) ([]api.Num, api.Errno) {
	if e := checkState(m, s); e != api.OK {
		return nil, e
	}
	bottom, _ := graph.Bottom(m)
	entered := entries(m, bottom, s)
	out := make([]exact.Rat, len(m.States))
	for _, component := range bottom {
		var chance exact.Rat
		for _, t := range component {
			chance = chance.Add(entered[t])
		}
		if chance.Sign() == 0 {
			continue
		}
		for i, share := range solveExactly(stationary(m, component)) {
			out[component[i]] = chance.Mul(share)
		}
	}
	return exact.Nums(out)
}

// entries returns for each state of a bottom component the chance that a path from s enters the
// component there.
func entries(m api.Model, bottom [][]int, s int) []exact.Rat {
	out := make([]exact.Rat, len(m.States))
	inBottom := members(len(m.States), bottom...)
	if inBottom[s] {
		out[s] = exact.Of(whole(1))
		return out
	}
	for u, count := range solveExactly(visits(m, bottom, s)) {
		for _, branch := range branches(m, u) {
			if inBottom[branch.To] {
				out[branch.To] = out[branch.To].Add(count.Mul(exact.Of(branch.Chance)))
			}
		}
	}
	return out
}
