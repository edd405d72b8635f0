package exact

import "dicebox/api"

// List returns valid numbers as numbers of any size.
func List(l []api.Num) []Rat {
	out := make([]Rat, len(l))
	for i, a := range l {
		out[i] = Of(a)
	}
	return out
}

// Nums returns numbers of any size as valid ones, or ErrFull if one of them is not valid.
func Nums(l []Rat) ([]api.Num, api.Errno) {
	out := make([]api.Num, len(l))
	for i, a := range l {
		number, e := a.Num()
		if e != api.OK {
			return nil, e
		}
		out[i] = number
	}
	return out, api.OK
}

// Common returns the least number, at least 1, by which each number of l can be multiplied so that an
// integer results.
func Common(l []Rat) Int {
	out := Whole(1)
	for _, a := range l {
		out = out.Mul(a.Low().over(out.Divisor(a.Low())))
	}
	return out
}

// Times returns the integer that results from a, multiplied by n. There is one if n is a multiple of
// what Common returns for a.
func (a Rat) Times(n Int) Int {
	return a.top.Mul(n.over(a.Low()))
}

// Scaled returns l, multiplied by the least number that makes all of it integers, and that number. Sums of
// integers are computed faster.
func Scaled(l []Rat) ([]Rat, Rat) {
	low := Common(l)
	out := make([]Rat, len(l))
	for i, a := range l {
		out[i] = Rat{a.Times(low), Whole(1)}
	}
	return out, Rat{low, Whole(1)}
}

// Dot returns the sum of the products of corresponding numbers of two lists of the same length. It
// adds halves: a running sum may grow with each product, and long numbers take less time if they
// are added to few others.
func Dot(l, m []api.Num) Rat {
	switch len(l) {
	case 0:
		return Rat{}
	case 1:
		return Of(l[0]).Mul(Of(m[0]))
	}
	half := len(l) / 2
	return Dot(l[:half], m[:half]).Add(Dot(l[half:], m[half:]))
}
