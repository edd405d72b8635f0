package exact

// windowBits is the length of the leading parts of two numbers that stand for them in Lehmer's
// method: the factors that result have at most half as many bits, so that all sums of
// products with a digit fit in 64 bits.
const windowBits = 60

// factors are those of the combinations first * a + second * b and third * a + fourth * b that
// replace a and b after several divisions.
type factors struct {
	first, second, third, fourth int64
}

// divisor returns the greatest common divisor of a and b, 0 if both are 0. It follows Lehmer:
// long numbers are replaced by combinations that are found from their leading bits, because
// dividing them again and again takes much longer.
func (a digits) divisor(b digits) digits {
	if a.compare(b) < 0 {
		a, b = b, a
	}
	for len(b) > 2 {
		f := leading(a, b)
		if f.second == 0 {
			_, rest := a.divide(b)
			a, b = b, rest
			continue
		}
		a, b = combine(a, b, f.first, f.second), combine(a, b, f.third, f.fourth)
	}
	if len(b) == 0 {
		return a
	}
	_, rest := a.divide(b)
	return word(wordDivisor(b.word(), rest.word()))
}

// wordDivisor returns the greatest common divisor of two words.
func wordDivisor(a, b uint64) uint64 {
	for b != 0 {
		a, b = b, a%b
	}
	return a
}

// leading carries out the divisions of a by b that are certain from their leading bits alone;
// a is at least b.
func leading(a, b digits) factors {
	cut := a.bits() - windowBits
	x, y := a.window(cut), b.window(cut)
	f := factors{first: 1, fourth: 1}
	for y+f.third != 0 && y+f.fourth != 0 {
		q := (x + f.first) / (y + f.third)
		if q != (x+f.second)/(y+f.fourth) {
			break
		}
		f = factors{f.third, f.fourth, f.first - q*f.third, f.second - q*f.fourth}
		x, y = y, x-q*y
	}
	return f
}

// window returns the bits of a from position cut upwards.
func (a digits) window(cut int) int64 {
	at, shift := cut/32, cut%32
	low := uint64(a.at(at)) | uint64(a.at(at+1))<<32
	high := uint64(a.at(at + 2))
	return int64(low>>shift | high<<(64-shift))
}

// combine returns x * a + y * b, which is at least 0 and less than a; b has at most as many digits as a.
func combine(a, b digits, x, y int64) digits {
	out := make(digits, len(a))
	var carry int64
	for i := range a {
		sum := x*int64(a[i]) + y*int64(b.at(i)) + carry
		out[i] = uint32(sum)
		carry = sum >> 32
	}
	return out.trim()
}
