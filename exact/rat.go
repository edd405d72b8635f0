package exact

import "dicebox/api"

// Rat is a rational number of any size. The zero value is 0.
type Rat struct {
	top Int
	low Int // greater than 0 and without a common divisor with top, or 0 in the zero value
}

// Of returns the valid number a as a Rat.
func Of(a api.Num) Rat {
	return Rat{Whole(a.Top), Whole(a.Low)}
}

// Ratio returns top / low, where low is not 0.
func Ratio(top, low Int) Rat {
	if low.Sign() < 0 {
		top, low = top.Neg(), low.Neg()
	}
	common := top.Divisor(low)
	return Rat{top.over(common), low.over(common)}
}

// over returns a / b where b is a divisor of a.
func (a Int) over(b Int) Int {
	if len(b.magnitude) == 1 && b.magnitude[0] == 1 {
		return a
	}
	quotient, _ := a.Divide(b)
	return quotient
}

// Num returns a as a number, or ErrFull if that is not valid.
func (a Rat) Num() (api.Num, api.Errno) {
	top, small := a.Top().limited()
	low, lowSmall := a.Low().limited()
	if !small || !lowSmall {
		return api.Num{}, api.ErrFull
	}
	return api.Num{Top: top, Low: low}, api.OK
}

// Top returns the upper number of a in lowest terms.
func (a Rat) Top() Int {
	return a.top
}

// Low returns the lower number of a in lowest terms; it is greater than 0.
func (a Rat) Low() Int {
	if a.low.Sign() == 0 {
		return Unsigned(1)
	}
	return a.low
}

// Sign returns -1, 0 or 1 if a is less than, equal to or greater than 0.
func (a Rat) Sign() int {
	return a.top.Sign()
}

// Neg returns -a.
func (a Rat) Neg() Rat {
	return Rat{a.top.Neg(), a.low}
}

// Cmp returns -1, 0 or 1 if a is less than, equal to or greater than b.
func (a Rat) Cmp(b Rat) int {
	return a.top.Mul(b.Low()).Cmp(b.top.Mul(a.Low()))
}

// Add returns a + b. Only a divisor of both lower numbers can reduce the sum, so the common
// divisors that are computed remain short.
func (a Rat) Add(b Rat) Rat {
	common := a.Low().Divisor(b.Low())
	factor := b.Low().over(common)
	top := a.top.Mul(factor).Add(b.top.Mul(a.Low().over(common)))
	rest := top.Divisor(common)
	return Rat{top.over(rest), a.Low().over(rest).Mul(factor)}
}

// Sub returns a - b.
func (a Rat) Sub(b Rat) Rat {
	return a.Add(b.Neg())
}

// Mul returns a * b. Each upper number is reduced with the other lower one before the
// product grows.
func (a Rat) Mul(b Rat) Rat {
	left := a.top.Divisor(b.Low())
	right := b.top.Divisor(a.Low())
	return Rat{a.top.over(left).Mul(b.top.over(right)), a.Low().over(right).Mul(b.Low().over(left))}
}

// Quo returns a / b, where b is not 0.
func (a Rat) Quo(b Rat) Rat {
	inverse := Rat{b.Low(), b.top}
	if b.Sign() < 0 {
		inverse = Rat{b.Low().Neg(), b.top.Neg()}
	}
	return a.Mul(inverse)
}
