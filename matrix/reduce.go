package matrix

import (
	"dicebox/api"
	"dicebox/num"
	"slices"
)

// Reduce returns the reduced form of a. It returns ErrArg if a is not valid, and ErrFull if a
// number of the reduced form is not valid.
func Reduce(a [][]api.Num) ([][]api.Num, api.Errno) {
	if !Valid(a) {
		return nil, api.ErrArg
	}
	t := survey(a)
	out := make([][]api.Num, len(a))
	for i := range out {
		row, found := t.numbers(i, 0, width(a))
		if !found {
			return nil, api.ErrFull
		}
		out[i] = row
	}
	if !generates(out, t[0].leads, a) {
		return nil, api.ErrFull
	}
	return out, api.OK
}

// generates reports whether the rows of a are sums of multiples of those of a matrix in reduced form
// with these columns of leading numbers. The factors are then the numbers of a in these columns,
// so that there is nothing to check in the columns themselves.
func generates(reduced [][]api.Num, leads []int, a [][]api.Num) bool {
	for j := range width(a) {
		if slices.Contains(leads, j) {
			continue
		}
		rest := column(reduced[:len(leads)], j)
		for _, row := range a {
			sum, e := num.Dot(pick(row, leads), rest)
			if e != api.OK || sum != row[j] {
				return false
			}
		}
	}
	return true
}

// pick returns the numbers of a row in some columns.
func pick(row []api.Num, columns []int) []api.Num {
	out := make([]api.Num, len(columns))
	for i, j := range columns {
		out[i] = row[j]
	}
	return out
}

// Rank returns the number of rows of the reduced form of a that are not 0 everywhere. It returns
// ErrArg if a is not valid.
func Rank(a [][]api.Num) (int, api.Errno) {
	if !Valid(a) {
		return 0, api.ErrArg
	}
	return len(survey(a)[0].leads), api.OK
}
