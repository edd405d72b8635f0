package exact

import "math/bits"

// divide returns the quotient and the rest for b other than 0.
func (a digits) divide(b digits) (digits, digits) {
	switch {
	case a.compare(b) < 0:
		return nil, a
	case len(a) <= 2:
		return word(a.word() / b.word()), word(a.word() % b.word())
	case len(b) == 1:
		return a.divideByDigit(b[0])
	}
	return a.divideLong(b)
}

// divideByDigit returns the quotient and the rest for a single digit other than 0.
func (a digits) divideByDigit(b uint32) (digits, digits) {
	out := make(digits, len(a))
	var rest uint32
	for i := len(a) - 1; i >= 0; i-- {
		out[i], rest = bits.Div32(rest, a[i], b)
	}
	return out.trim(), word(uint64(rest))
}

// divideLong divides with pencil and paper, for b of at least two digits. Both numbers are
// shifted until the first digit of b is at least half the base: then a quotient digit
// that is guessed from the leading digits is at most two too great.
func (a digits) divideLong(b digits) (digits, digits) {
	shift := bits.LeadingZeros32(b[len(b)-1])
	divisor := b.shiftLeft(shift)[:len(b)]
	rest := a.shiftLeft(shift)
	out := make(digits, len(a)-len(b)+1)
	for i := len(out) - 1; i >= 0; i-- {
		out[i] = rest[i : i+len(b)+1].quotientDigit(divisor)
	}
	return out.trim(), rest[:len(b)].shiftRight(shift)
}

// quotientDigit subtracts b from a as often as possible and returns how often that is; a has
// one digit more than b. It changes a, which is the rest that is still being computed.
func (a digits) quotientDigit(b digits) uint32 {
	guess := a.guessDigit(b)
	if guess == 0 {
		return 0
	}
	if a.subtractMultiple(b, guess) {
		guess--
		a[len(b)] += a[:len(b)].addMultiple(b, 1)
	}
	return guess
}

// guessDigit estimates the quotient from the first three digits of a and two of b. It is the
// quotient or greater by 1.
func (a digits) guessDigit(b digits) uint32 {
	n := len(b)
	top := uint64(a[n])<<32 | uint64(a[n-1])
	first, second := uint64(b[n-1]), uint64(b[n-2])
	guess, rest := top/first, top%first
	for guess >= base || guess*second > rest<<32|uint64(a[n-2]) {
		guess--
		rest += first
		if rest >= base {
			break
		}
	}
	return uint32(guess)
}

// subtractMultiple subtracts b times x from a and reports whether the result is less than 0
// (a then lacks the digit that was borrowed).
func (a digits) subtractMultiple(b digits, x uint32) bool {
	var carry uint64
	var borrow uint32
	for i, y := range b {
		product := uint64(x)*uint64(y) + carry
		carry = product >> 32
		a[i], borrow = bits.Sub32(a[i], uint32(product), borrow)
	}
	n := len(b)
	a[n], borrow = bits.Sub32(a[n], uint32(carry), borrow)
	return borrow != 0
}
