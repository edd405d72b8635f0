package num

import "dicebox/api"

// Between returns, of the numbers from a to b with the least lower number, the one with the least
// absolute value. It returns ErrArg if a number is not valid, and ErrRange if a is greater
// than b.
func Between(a, b api.Num) (api.Num, api.Errno) {
	order, e := Cmp(a, b)
	if e != api.OK {
		return api.Num{}, e
	}
	switch {
	case order > 0:
		return api.Num{}, api.ErrRange
	case a.Top > 0:
		return simplest(a, b), api.OK
	case b.Top < 0:
		return negative(simplest(negative(b), negative(a))), api.OK
	}
	return api.Num{Top: 0, Low: 1}, api.OK
}

// negative returns -a.
func negative(a api.Num) api.Num {
	return api.Num{Top: -a.Top, Low: a.Low}
}

// simplest returns the number from a to b with the least lower number, and of several ones the least,
// for a greater than 0 and at most b. If there is no integer from a to b, all these numbers have
// the same integer part. The inverse of what follows it then has the least upper number, which
// the same number has: of all numbers in a range, one has both the least upper and the least
// lower number. No upper number exceeds that of a.
func simplest(a, b api.Num) api.Num {
	whole := a.Top / a.Low
	switch {
	case whole*a.Low == a.Top:
		return api.Num{Top: whole, Low: 1}
	case b.Top/b.Low > whole:
		return api.Num{Top: whole + 1, Low: 1}
	}
	rest := simplest(api.Num{Top: b.Low, Low: b.Top - whole*b.Low}, api.Num{Top: a.Low, Low: a.Top - whole*a.Low})
	return api.Num{Top: whole*rest.Top + rest.Low, Low: rest.Top}
}
