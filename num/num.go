// Package num is layer 1: rational numbers (see shared/doc/01-num.md). Package exact contains
// the integers of any size with which it computes.
package num

import (
	"dicebox/api"
	"dicebox/exact"
	"strconv"
)

// maxPower is the greatest exponent that Pow accepts.
const maxPower = 10000

// maxDoublings is how often 1 can be doubled without exceeding MaxNum.
const maxDoublings = 60

// Valid reports whether a is a valid number.
func Valid(a api.Num) bool {
	if a.Low < 1 || a.Low > api.MaxNum || a.Top < -api.MaxNum || a.Top > api.MaxNum {
		return false
	}
	return divisor(max(a.Top, -a.Top), a.Low) == 1
}

// divisor returns the greatest common divisor of a and b, which are at least 0 and not both 0.
func divisor(a, b int) int {
	for b != 0 {
		a, b = b, a%b
	}
	return a
}

// Make returns the number top / low. It returns ErrRange if low is 0, and ErrFull if the
// number is not valid.
func Make(top, low int) (api.Num, api.Errno) {
	if low == 0 {
		return api.Num{}, api.ErrRange
	}
	return exact.Ratio(exact.Whole(top), exact.Whole(low)).Num()
}

// Add returns a + b. It returns ErrArg if a number is not valid, and ErrFull if the result is not.
func Add(a, b api.Num) (api.Num, api.Errno) {
	return operate(a, b, exact.Rat.Add)
}

// Sub returns a - b, with the errors of Add.
func Sub(a, b api.Num) (api.Num, api.Errno) {
	return operate(a, b, exact.Rat.Sub)
}

// Mul returns a * b, with the errors of Add.
func Mul(a, b api.Num) (api.Num, api.Errno) {
	return operate(a, b, exact.Rat.Mul)
}

// Div returns a / b, with the errors of Add, and ErrNone if b is 0.
func Div(a, b api.Num) (api.Num, api.Errno) {
	if Valid(a) && Valid(b) && b.Top == 0 {
		return api.Num{}, api.ErrNone
	}
	return operate(a, b, exact.Rat.Quo)
}

// operate applies an operation to two numbers.
func operate(a, b api.Num, operation func(a, b exact.Rat) exact.Rat) (api.Num, api.Errno) {
	if !Valid(a) || !Valid(b) {
		return api.Num{}, api.ErrArg
	}
	return operation(exact.Of(a), exact.Of(b)).Num()
}

// Cmp returns -1, 0 or 1 if a is less than, equal to or greater than b. It returns ErrArg if a
// number is not valid.
func Cmp(a, b api.Num) (int, api.Errno) {
	if !Valid(a) || !Valid(b) {
		return 0, api.ErrArg
	}
	return exact.Of(a).Cmp(exact.Of(b)), api.OK
}

// Pow returns a to the power of n. It returns ErrArg if a is not valid, ErrRange unless n is from 0
// to 10000, and ErrFull if the result is not valid.
func Pow(a api.Num, n int) (api.Num, api.Errno) {
	if !Valid(a) {
		return api.Num{}, api.ErrArg
	}
	if n < 0 || n > maxPower {
		return api.Num{}, api.ErrRange
	}
	if a.Low == 1 && -1 <= a.Top && a.Top <= 1 {
		return unitPow(a, n), api.OK
	}
	if n > maxDoublings {
		// Top or Low is at least 2 in absolute value, and their powers have no common divisor either
		return api.Num{}, api.ErrFull
	}
	out, factor := exact.Of(api.Num{Top: 1, Low: 1}), exact.Of(a)
	for range n {
		out = out.Mul(factor)
	}
	return out.Num()
}

// unitPow returns -1, 0 or 1 to the power of n.
func unitPow(a api.Num, n int) api.Num {
	switch {
	case n == 0:
		return api.Num{Top: 1, Low: 1}
	case n%2 == 0:
		return api.Num{Top: max(a.Top, -a.Top), Low: 1}
	}
	return a
}

// Dot returns the sum of the products of corresponding numbers. It returns ErrArg if a number is
// not valid, ErrDim if the lists have different lengths, and ErrFull if the sum is not valid.
func Dot(l, m []api.Num) (api.Num, api.Errno) {
	if !allValid(l) || !allValid(m) {
		return api.Num{}, api.ErrArg
	}
	if len(l) != len(m) {
		return api.Num{}, api.ErrDim
	}
	return exact.Dot(l, m).Num()
}

// allValid reports whether all numbers of l are valid.
func allValid(l []api.Num) bool {
	for _, a := range l {
		if !Valid(a) {
			return false
		}
	}
	return true
}

// Print returns the printed form of a. It returns ErrArg if a is not valid.
func Print(a api.Num) (string, api.Errno) {
	if !Valid(a) {
		return "", api.ErrArg
	}
	out := strconv.Itoa(a.Top)
	if a.Low != 1 {
		out += "/" + strconv.Itoa(a.Low)
	}
	return out, api.OK
}
