// Package exact computes with integers and rational numbers of any size. The layers use it
// wherever a number may exceed the limits of api.Num before the result is known.
package exact

import (
	"cmp"
	"math/bits"
)

// base is the base of the digits.
const base = 1 << 32

// digits is an integer of at least 0: its digits to the base 2^32, the least one first, without
// leading zeros. Values share their memory, so nothing changes the digits of a finished value.
type digits []uint32

// word returns w as digits.
func word(w uint64) digits {
	return digits{uint32(w), uint32(w >> 32)}.trim()
}

// word returns the value of at most two digits.
func (a digits) word() uint64 {
	var w uint64
	for i, d := range a {
		w |= uint64(d) << (32 * i)
	}
	return w
}

// trim removes leading zeros.
func (a digits) trim() digits {
	for len(a) > 0 && a[len(a)-1] == 0 {
		a = a[:len(a)-1]
	}
	return a
}

// at returns the digit at position i, which may lie beyond the last one.
func (a digits) at(i int) uint32 {
	if i < len(a) {
		return a[i]
	}
	return 0
}

// bits returns the number of binary digits; 0 for 0.
func (a digits) bits() int {
	if len(a) == 0 {
		return 0
	}
	return 32*(len(a)-1) + bits.Len32(a[len(a)-1])
}

// compare returns -1, 0 or 1 if a is less than, equal to or greater than b.
func (a digits) compare(b digits) int {
	if c := cmp.Compare(len(a), len(b)); c != 0 {
		return c
	}
	for i := len(a) - 1; i >= 0; i-- {
		if c := cmp.Compare(a[i], b[i]); c != 0 {
			return c
		}
	}
	return 0
}

// add returns the sum.
func (a digits) add(b digits) digits {
	out := make(digits, max(len(a), len(b))+1)
	var carry uint64
	for i := range out {
		sum := uint64(a.at(i)) + uint64(b.at(i)) + carry
		out[i] = uint32(sum)
		carry = sum >> 32
	}
	return out.trim()
}

// sub returns the difference for b at most a.
func (a digits) sub(b digits) digits {
	out := make(digits, len(a))
	var borrow uint32
	for i := range out {
		out[i], borrow = bits.Sub32(a[i], b.at(i), borrow)
	}
	return out.trim()
}

// mul returns the product.
func (a digits) mul(b digits) digits {
	out := make(digits, len(a)+len(b))
	for i, x := range a {
		carry := out[i:i+len(b)].addMultiple(b, x)
		out[i+len(b)] = carry
	}
	return out.trim()
}

// addMultiple adds b times x to the digits of a, which has as many, and returns the digit
// that is carried beyond them. It is for digits that are still being computed.
func (a digits) addMultiple(b digits, x uint32) uint32 {
	var carry uint64
	for i, y := range b {
		sum := uint64(x)*uint64(y) + uint64(a[i]) + carry
		a[i] = uint32(sum)
		carry = sum >> 32
	}
	return uint32(carry)
}

// shiftLeft returns a with one more digit, multiplied by 2^n for n below 32. It may have
// leading zeros.
func (a digits) shiftLeft(n int) digits {
	out := make(digits, len(a)+1)
	for i, d := range a {
		wide := uint64(d) << n
		out[i] |= uint32(wide)
		out[i+1] = uint32(wide >> 32)
	}
	return out
}

// shiftRight returns a divided by 2^n for n below 32.
func (a digits) shiftRight(n int) digits {
	out := make(digits, len(a))
	for i := range a {
		wide := uint64(a.at(i+1))<<32 | uint64(a[i])
		out[i] = uint32(wide >> n)
	}
	return out.trim()
}
