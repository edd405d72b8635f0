package exact

import "dicebox/api"

// Int is an integer of any size. The zero value is 0.
type Int struct {
	negative  bool // never for 0
	magnitude digits
}

// Whole returns n as an Int.
func Whole(n int) Int {
	if n < 0 {
		// the least int has no positive counterpart, but its unsigned negation is right
		return Int{true, word(-uint64(n))}
	}
	return Int{false, word(uint64(n))}
}

// Unsigned returns n as an Int.
func Unsigned(n uint64) Int {
	return Int{false, word(n)}
}

// Decimal returns the value of text, which consists of decimal digits only.
func Decimal(text string) Int {
	var out digits
	ten := word(10)
	for _, c := range []byte(text) {
		out = out.mul(ten).add(word(uint64(c - '0')))
	}
	return Int{false, out}
}

// signed returns the Int with this sign and magnitude; there is no negative 0.
func signed(negative bool, magnitude digits) Int {
	return Int{negative && len(magnitude) > 0, magnitude}
}

// Sign returns -1, 0 or 1 if a is less than, equal to or greater than 0.
func (a Int) Sign() int {
	switch {
	case a.negative:
		return -1
	case len(a.magnitude) == 0:
		return 0
	}
	return 1
}

// Neg returns -a.
func (a Int) Neg() Int {
	return signed(!a.negative, a.magnitude)
}

// Abs returns the absolute value of a.
func (a Int) Abs() Int {
	return Int{false, a.magnitude}
}

// Cmp returns -1, 0 or 1 if a is less than, equal to or greater than b.
func (a Int) Cmp(b Int) int {
	switch {
	case a.negative && b.negative:
		return b.magnitude.compare(a.magnitude)
	case a.negative:
		return -1
	case b.negative:
		return 1
	}
	return a.magnitude.compare(b.magnitude)
}

// Add returns a + b.
func (a Int) Add(b Int) Int {
	if a.negative == b.negative {
		return signed(a.negative, a.magnitude.add(b.magnitude))
	}
	if a.magnitude.compare(b.magnitude) < 0 {
		return signed(b.negative, b.magnitude.sub(a.magnitude))
	}
	return signed(a.negative, a.magnitude.sub(b.magnitude))
}

// Sub returns a - b.
func (a Int) Sub(b Int) Int {
	return a.Add(b.Neg())
}

// Mul returns a * b.
func (a Int) Mul(b Int) Int {
	return signed(a.negative != b.negative, a.magnitude.mul(b.magnitude))
}

// Divide returns the quotient of a and b, rounded towards 0, and the rest, which has the sign of a.
// b is not 0.
func (a Int) Divide(b Int) (Int, Int) {
	quotient, rest := a.magnitude.divide(b.magnitude)
	return signed(a.negative != b.negative, quotient), signed(a.negative, rest)
}

// Divisor returns the greatest common divisor of a and b; 0 if both are 0.
func (a Int) Divisor(b Int) Int {
	return Int{false, a.magnitude.divisor(b.magnitude)}
}

// Bits returns the number of binary digits of the absolute value of a; 0 for 0.
func (a Int) Bits() int {
	return a.magnitude.bits()
}

// limited returns a as an int, and whether it is at most MaxNum in absolute value.
func (a Int) limited() (int, bool) {
	if a.magnitude.compare(word(api.MaxNum)) > 0 {
		return 0, false
	}
	n := int(a.magnitude.word())
	if a.negative {
		return -n, true
	}
	return n, true
}

// Modulo returns the rest of a after division by n, from 0 to n - 1, for n other than 0.
func (a Int) Modulo(n uint64) uint64 {
	_, rest := a.magnitude.divide(word(n))
	if a.negative && len(rest) > 0 {
		return n - rest.word()
	}
	return rest.word()
}
