package reach

import (
	"dicebox/api"
	"dicebox/exact"
)

// fraction is a rational number that may have a common divisor: additions and multiplications are enough to
// compute with it. low is greater than 0.
type fraction struct {
	top, low exact.Int
}

// fractionOf returns a number as a fraction.
func fractionOf(a api.Num) fraction {
	return fraction{exact.Whole(a.Top), exact.Whole(a.Low)}
}

// add returns a + b.
func (a fraction) add(b fraction) fraction {
	return fraction{a.top.Mul(b.low).Add(b.top.Mul(a.low)), a.low.Mul(b.low)}
}

// multiply returns a * b.
func (a fraction) multiply(b fraction) fraction {
	return fraction{a.top.Mul(b.top), a.low.Mul(b.low)}
}

// compare returns -1, 0 or 1 if a is less than, equal to or greater than b.
func (a fraction) compare(b fraction) int {
	return a.top.Mul(b.low).Cmp(b.top.Mul(a.low))
}

// mean returns the mean of valid numbers by a choice.
func mean(c api.Choice, values []api.Num) fraction {
	out := fractionOf(number(0))
	for _, branch := range c.Branches {
		out = out.add(fractionOf(branch.Chance).multiply(fractionOf(values[branch.To])))
	}
	return out
}
