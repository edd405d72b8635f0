package residue

// witnesses are enough to tell all primes below 2^64 from other numbers.
var witnesses = [...]uint64{2, 3, 5, 7, 11, 13, 17, 19, 23, 29, 31, 37}

// Fields yields the fields of all primes between 2^Bits and 2^(Bits + 1), the greatest prime first.
func Fields(yield func(Field) bool) {
	for n := uint64(1)<<(Bits+1) - 1; n > 1<<Bits; n -= 2 {
		if isPrime(n) && !yield(Field{n}) {
			return
		}
	}
}

// isPrime reports whether n, an odd number greater than all witnesses, is prime.
func isPrime(n uint64) bool {
	for _, w := range witnesses {
		if n%w == 0 || !passes(n, w) {
			return false
		}
	}
	return true
}

// passes reports whether the powers of w modulo n are such as they are for each prime: the square
// roots that lead from w^(n-1) back to an odd exponent are 1 until one of them is -1.
func passes(n, w uint64) bool {
	f := Field{n}
	odd := (n - 1) / 2
	for odd%2 == 0 {
		odd /= 2
	}
	x := f.power(w, odd)
	if x == 1 || x == n-1 {
		return true
	}
	for ; odd < (n-1)/2; odd *= 2 {
		x = f.Mul(x, x)
		if x == n-1 {
			return true
		}
	}
	return false
}
