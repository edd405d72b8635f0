// Package matrix is layer 2: matrices and systems of linear equations (see shared/doc/02-matrix.md).
// Reduced forms are computed with residues modulo primes, because the numbers on the way to a
// short result may be very long.
package matrix

import (
	"dicebox/api"
	"dicebox/num"
	"slices"
)

// maxPower is the greatest exponent that Power accepts.
const maxPower = 1000

// Valid reports whether a is a valid matrix.
func Valid(a [][]api.Num) bool {
	if len(a) > api.MaxCells {
		return false
	}
	for _, row := range a {
		if len(row) != len(a[0]) || !isVector(row) {
			return false
		}
	}
	return true
}

// isVector reports whether x is a vector.
func isVector(x []api.Num) bool {
	if len(x) > api.MaxCells {
		return false
	}
	for _, number := range x {
		if !num.Valid(number) {
			return false
		}
	}
	return true
}

// width returns the length of the rows of a.
func width(a [][]api.Num) int {
	if len(a) == 0 {
		return 0
	}
	return len(a[0])
}

// isSquare reports whether the width of a is the number of its rows.
func isSquare(a [][]api.Num) bool {
	return width(a) == len(a)
}

// zeros returns a vector of n zeros.
func zeros(n int) []api.Num {
	return slices.Repeat([]api.Num{{Top: 0, Low: 1}}, n)
}

// unit returns the square matrix with n rows that has 1 on the diagonal and 0 elsewhere.
func unit(n int) [][]api.Num {
	out := make([][]api.Num, n)
	for i := range out {
		out[i] = zeros(n)
		out[i][i].Top = 1
	}
	return out
}

// column returns the numbers of a in column j.
func column(a [][]api.Num, j int) []api.Num {
	out := make([]api.Num, len(a))
	for i, row := range a {
		out[i] = row[j]
	}
	return out
}

// isEqual reports whether a and b have the same rows.
func isEqual(a, b [][]api.Num) bool {
	return slices.EqualFunc(a, b, slices.Equal[[]api.Num])
}

// Mul returns the product of a and b. It returns ErrArg if one of them is not valid, ErrDim unless
// the width of a is the number of rows of b or a has no rows, and ErrFull if a number of the
// product is not valid.
func Mul(a, b [][]api.Num) ([][]api.Num, api.Errno) {
	if !Valid(a) || !Valid(b) {
		return nil, api.ErrArg
	}
	if len(a) > 0 && width(a) != len(b) {
		return nil, api.ErrDim
	}
	out := make([][]api.Num, len(a))
	for i := range out {
		out[i] = make([]api.Num, width(b))
	}
	for j := range width(b) {
		products, e := Apply(a, column(b, j))
		if e != api.OK {
			return nil, e
		}
		for i, product := range products {
			out[i][j] = product
		}
	}
	return out, api.OK
}

// Apply returns the sum of the products of its numbers with those of x, for each row of a. It
// returns ErrArg if a is not valid or x is not a vector, ErrDim unless the width of a is the
// length of x or a has no rows, and ErrFull if a sum is not valid.
func Apply(a [][]api.Num, x []api.Num) ([]api.Num, api.Errno) {
	if !Valid(a) || !isVector(x) {
		return nil, api.ErrArg
	}
	if len(a) > 0 && width(a) != len(x) {
		return nil, api.ErrDim
	}
	out := make([]api.Num, len(a))
	for i, row := range a {
		sum, e := num.Dot(row, x)
		if e != api.OK {
			return nil, e
		}
		out[i] = sum
	}
	return out, api.OK
}
