// Package fraction computes with fractions that are not reduced, for the checks of certificates: additions,
// multiplications and comparisons are enough for it.
package fraction

import (
	"dicebox/api"
	"dicebox/exact"
)

// Number is a rational number. low is greater than 0 and may have a common divisor with top.
type Number struct {
	top, low exact.Int
}

// Of returns a valid number.
func Of(a api.Num) Number {
	return Number{exact.Whole(a.Top), exact.Whole(a.Low)}
}

// Add returns a + b.
func (a Number) Add(b Number) Number {
	return Number{a.top.Mul(b.low).Add(b.top.Mul(a.low)), a.low.Mul(b.low)}
}

// Mul returns a * b.
func (a Number) Mul(b Number) Number {
	return Number{a.top.Mul(b.top), a.low.Mul(b.low)}
}

// Cmp returns -1, 0 or 1 if a is less than, equal to or greater than b.
func (a Number) Cmp(b Number) int {
	return a.top.Mul(b.low).Cmp(b.top.Mul(a.low))
}

// Mean returns the mean of valid numbers by a choice.
func Mean(c api.Choice, values []api.Num) Number {
	out := Of(api.Num{Top: 0, Low: 1})
	for _, branch := range c.Branches {
		out = out.Add(Of(branch.Chance).Mul(Of(values[branch.To])))
	}
	return out
}
