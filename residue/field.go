// Package residue computes with residues modulo primes. A result whose numbers are valid is
// determined by its residues modulo two primes, however long the numbers on the way to it are.
package residue

import (
	"dicebox/api"
	"dicebox/exact"
	"math/bits"
)

// Bits is a number of binary digits: each prime is greater than 2^Bits.
const Bits = 61

// Field contains the residues 0, 1 .. modulo a prime between 2^Bits and 2^(Bits + 1). As valid
// numbers have lower numbers of at most MaxNum, which is less, each of them has a residue.
type Field struct {
	prime uint64
}

// Add returns a + b.
func (f Field) Add(a, b uint64) uint64 {
	if sum := a + b; sum < f.prime {
		return sum
	}
	return a + b - f.prime
}

// Sub returns a - b.
func (f Field) Sub(a, b uint64) uint64 {
	if a >= b {
		return a - b
	}
	return a + f.prime - b
}

// Mul returns a * b.
func (f Field) Mul(a, b uint64) uint64 {
	high, low := bits.Mul64(a, b)
	_, rest := bits.Div64(high, low, f.prime)
	return rest
}

// Inverse returns the residue whose product with a is 1, for a other than 0.
func (f Field) Inverse(a uint64) uint64 {
	return f.power(a, f.prime-2)
}

// power returns a to the power of n.
func (f Field) power(a, n uint64) uint64 {
	out := uint64(1)
	for ; n > 0; n >>= 1 {
		if n&1 == 1 {
			out = f.Mul(out, a)
		}
		a = f.Mul(a, a)
	}
	return out
}

// Of returns the residue of the valid number a.
func (f Field) Of(a api.Num) uint64 {
	top := uint64(max(a.Top, -a.Top))
	if a.Top < 0 {
		top = f.prime - top
	}
	if a.Low == 1 {
		return top
	}
	return f.Mul(top, f.Inverse(uint64(a.Low)))
}

// Modulo returns the residue of the integer a.
func (f Field) Modulo(a exact.Int) uint64 {
	return a.Modulo(f.prime)
}

// Prime returns the prime.
func (f Field) Prime() exact.Int {
	return exact.Unsigned(f.prime)
}

// Rebuild returns the valid number with the residue a in f and b in g, two different fields, and
// whether there is one. There is at most one: if t / l and u / m are two, the product of both
// primes divides t * m - u * l, which is at most 2 * MaxNum^2 and so less than that product.
func Rebuild(f, g Field, a, b uint64) (api.Num, bool) {
	steps := g.Mul(g.Sub(b, a%g.prime), g.Inverse(f.prime%g.prime))
	both := exact.Unsigned(a).Add(f.Prime().Mul(exact.Unsigned(steps)))
	out, found := Fraction(both, f.Prime().Mul(g.Prime()), exact.Whole(api.MaxNum))
	if !found {
		return api.Num{}, false
	}
	number, e := out.Num()
	return number, e == api.OK
}

// Fraction returns the rational number with the residue a, at least 0, modulo product whose parts are
// at most limit, and whether it has found one. In Euclid's algorithm for both, each rest is a times
// its factor, apart from multiples of product; the first rest that is short enough belongs to
// the number, if there is one. There is at most one if product is more than twice the square of
// limit.
func Fraction(a, product, limit exact.Int) (exact.Rat, bool) {
	before, rest := product, a
	factorBefore, factor := exact.Int{}, exact.Whole(1)
	for rest.Cmp(limit) > 0 {
		quotient, next := before.Divide(rest)
		before, rest = rest, next
		factorBefore, factor = factor, factorBefore.Sub(quotient.Mul(factor))
	}
	if factor.Abs().Cmp(limit) > 0 {
		return exact.Rat{}, false
	}
	return exact.Ratio(rest, factor), true
}
