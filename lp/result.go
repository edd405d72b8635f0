package lp

import (
	"dicebox/api"
	"dicebox/exact"
	"dicebox/simplex"
)

// collector turns rational numbers into numbers and keeps the error of those that are not valid.
type collector struct {
	e api.Errno
}

// number returns a as a number.
func (c *collector) number(a exact.Rat) api.Num {
	out, e := a.Num()
	if e != api.OK {
		c.e = e
	}
	return out
}

// numbers returns the numbers of a list.
func (c *collector) numbers(l []exact.Rat) []api.Num {
	out := make([]api.Num, len(l))
	for i, a := range l {
		out[i] = c.number(a)
	}
	return out
}

// resultOf returns a result with valid numbers, or ErrFull if one of them is not valid.
func resultOf(r simplex.Result) (Result, api.Errno) {
	c := &collector{}
	makers := []func() Result{
		Infeasible: func() Result {
			return Result{Y: c.numbers(r.Y)}
		},
		Unbounded: func() Result {
			return Result{X: c.numbers(r.X), Ray: c.numbers(r.Ray)}
		},
		Optimal: func() Result {
			return Result{Value: c.number(r.Value), X: c.numbers(r.X), Y: c.numbers(r.Y)}
		},
	}
	out := makers[r.Kind]()
	out.Kind = r.Kind
	if c.e != api.OK {
		return Result{}, c.e
	}
	return out, api.OK
}
