package matrix

import (
	"dicebox/api"
	"dicebox/residue"
)

// Det returns the determinant of a. It returns ErrArg if a is not valid, ErrDim unless it is square,
// and ErrFull if the determinant is not valid.
func Det(a [][]api.Num) (api.Num, api.Errno) {
	if !Valid(a) {
		return api.Num{}, api.ErrArg
	}
	if !isSquare(a) {
		return api.Num{}, api.ErrDim
	}
	out, found := determinant(a)
	if !found {
		return api.Num{}, api.ErrFull
	}
	return out, api.OK
}

// determinant returns the determinant of a, and whether it is a valid number. A valid number that
// fits two primes is certain if it fits as many primes as multiply to more than the difference
// from the determinant can be, if both are multiplied by all common lower numbers of the rows
// and by the lower number of the valid one.
func determinant(a [][]api.Num) (api.Num, bool) {
	var first image
	var out api.Num
	count, need := 0, minorBits(a)+residue.Bits
	for f := range residue.Fields {
		next := imageOf(a, f)
		fits := true
		switch count {
		case 0:
			first = next
		case 1:
			out, fits = residue.Rebuild(first.field, f, first.det, next.det)
		default:
			fits = f.Of(out) == next.det
		}
		if !fits {
			return api.Num{}, false
		}
		count++
		if count >= 2 && count*residue.Bits >= need {
			break
		}
	}
	return out, true
}

// Inverse returns the matrix whose product with a is the unit matrix. It returns ErrArg if a is not
// valid, ErrDim unless it is square, ErrNone if its determinant is 0, and ErrFull if the
// inverse is not valid.
func Inverse(a [][]api.Num) ([][]api.Num, api.Errno) {
	if !Valid(a) {
		return nil, api.ErrArg
	}
	if !isSquare(a) {
		return nil, api.ErrDim
	}
	n := len(a)
	t := survey(beside(a, unit(n)...))
	if n > 0 && t[0].leads[n-1] != n-1 {
		return nil, api.ErrNone
	}
	out := make([][]api.Num, n)
	for i := range out {
		row, found := t.numbers(i, n, 2*n)
		if !found {
			return nil, api.ErrFull
		}
		out[i] = row
	}
	if product, e := Mul(a, out); e != api.OK || !isEqual(product, unit(n)) {
		return nil, api.ErrFull
	}
	return out, api.OK
}
