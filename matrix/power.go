package matrix

import (
	"dicebox/api"
	"dicebox/exact"
	"dicebox/residue"
	"math/bits"
	"slices"
)

// ring is the arithmetic of the numbers of a table. The zero value of T is 0.
type ring[T any] struct {
	one      T
	add, mul func(a, b T) T
}

// Power returns the product of n copies of a. It returns ErrArg if a is not valid, ErrDim unless it
// is square, ErrRange unless n is from 0 to 1000, and ErrFull if a number of the product is not
// valid.
func Power(a [][]api.Num, n int) ([][]api.Num, api.Errno) {
	switch {
	case !Valid(a):
		return nil, api.ErrArg
	case !isSquare(a):
		return nil, api.ErrDim
	case n < 0 || n > maxPower:
		return nil, api.ErrRange
	case !mayHavePower(a, n):
		return nil, api.ErrFull
	}
	rationals := ring[exact.Rat]{exact.Of(api.Num{Top: 1, Low: 1}), exact.Rat.Add, exact.Rat.Mul}
	return narrow(power(rationals, each(a, exact.Of), n))
}

// mayHavePower reports whether there are valid numbers with the residues of the power of a. Most
// powers with very long numbers are refused here, before a long number has been computed.
func mayHavePower(a [][]api.Num, n int) bool {
	_, found := residue.Guess(func(f residue.Field) []uint64 {
		residues := ring[uint64]{1, f.Add, f.Mul}
		return slices.Concat(power(residues, each(a, f.Of), n)...)
	})
	return found
}

// power returns the product of n copies of a square table.
func power[T any](r ring[T], a [][]T, n int) [][]T {
	out := unitTable(r, len(a))
	length := bits.Len(uint(n))
	for i := range length {
		out = product(r, out, out)
		if n>>(length-1-i)&1 == 1 {
			out = product(r, out, a)
		}
	}
	return out
}

// unitTable returns the square table with n rows that has 1 on the diagonal and 0 elsewhere.
func unitTable[T any](r ring[T], n int) [][]T {
	out := make([][]T, n)
	for i := range out {
		out[i] = make([]T, n)
		out[i][i] = r.one
	}
	return out
}

// product returns the product of two square tables: each of its rows is a sum of multiples of
// the rows of b.
func product[T any](r ring[T], a, b [][]T) [][]T {
	out := make([][]T, len(a))
	for i, row := range a {
		out[i] = make([]T, len(a))
		for k, factor := range row {
			combine(out[i], b[k], func(sum, x T) T { return r.add(sum, r.mul(factor, x)) })
		}
	}
	return out
}

// combine replaces each number of a row by what both gives for it and the corresponding one of
// another row.
func combine[T any](row, other []T, both func(a, b T) T) {
	for i, x := range other {
		row[i] = both(row[i], x)
	}
}

// each returns the table of the results of convert.
func each[T any](a [][]api.Num, convert func(api.Num) T) [][]T {
	out := make([][]T, len(a))
	for i, row := range a {
		out[i] = make([]T, len(row))
		for j, number := range row {
			out[i][j] = convert(number)
		}
	}
	return out
}

// narrow returns a table of numbers of any size as a matrix, or ErrFull if that is not valid.
func narrow(a [][]exact.Rat) ([][]api.Num, api.Errno) {
	out := make([][]api.Num, len(a))
	for i, row := range a {
		numbers, e := exact.Nums(row)
		if e != api.OK {
			return nil, e
		}
		out[i] = numbers
	}
	return out, api.OK
}
