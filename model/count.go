package model

import "dicebox/api"

// Count returns the number of strategies. It returns ErrArg if m is not valid, and ErrFull if there
// are more than MaxNum.
func Count(m api.Model) (int, api.Errno) {
	if !Valid(m) {
		return 0, api.ErrArg
	}
	count := 1
	for _, state := range m.States {
		if count > api.MaxNum/len(state.Choices) {
			return 0, api.ErrFull
		}
		count *= len(state.Choices)
	}
	return count, api.OK
}

// Nth returns the strategy that is preceded by exactly k strategies in lexicographic order. It returns
// ErrArg if m is not valid, and ErrRange unless k is at least 0 and less than the number of
// strategies, even if that is greater than every int.
func Nth(m api.Model, k int) ([]int, api.Errno) {
	if !Valid(m) {
		return nil, api.ErrArg
	}
	if k < 0 {
		return nil, api.ErrRange
	}
	// the choices are the digits of k, with as many digits as there are choices at each place
	out := make([]int, len(m.States))
	for i := len(out) - 1; i >= 0; i-- {
		n := len(m.States[i].Choices)
		out[i] = k % n
		k /= n
	}
	if k > 0 {
		return nil, api.ErrRange
	}
	return out, api.OK
}
