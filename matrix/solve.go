package matrix

import (
	"dicebox/api"
	"slices"
)

// Solve returns how many vectors a maps to b: 0, 1, or 2 if there are more; and one of them, if
// there is one: that with 0 in all columns without a leading number. It returns ErrArg if
// a or b is not valid, ErrDim unless b has one number for each row of a, and ErrFull if that
// vector is not valid.
func Solve(a [][]api.Num, b []api.Num) (int, []api.Num, api.Errno) {
	if !Valid(a) || !isVector(b) {
		return 0, nil, api.ErrArg
	}
	if len(a) != len(b) {
		return 0, nil, api.ErrDim
	}
	last := width(a)
	t := survey(beside(a, b))
	leads := t[0].leads
	if len(leads) > 0 && leads[len(leads)-1] == last {
		return 0, nil, api.OK
	}
	x := zeros(last)
	for i, j := range leads {
		right, found := t.numbers(i, last, last+1)
		if !found {
			return 0, nil, api.ErrFull
		}
		x[j] = right[0]
	}
	if sums, e := Apply(a, x); e != api.OK || !slices.Equal(sums, b) {
		return 0, nil, api.ErrFull
	}
	if len(leads) == last {
		return 1, x, api.OK
	}
	return 2, x, api.OK
}

// beside returns the rows of a, each followed by the corresponding number of each column.
func beside(a [][]api.Num, columns ...[]api.Num) [][]api.Num {
	out := make([][]api.Num, len(a))
	for i, row := range a {
		out[i] = slices.Clone(row)
		for _, c := range columns {
			out[i] = append(out[i], c[i])
		}
	}
	return out
}
