package chain

import (
	"dicebox/api"
	"dicebox/exact"
	"dicebox/residue"
	"iter"
	"slices"
)

// maxCount is the greatest number of steps.
const maxCount = 1000

// arithmetic is how numbers of one type are computed with. The zero value of T is 0.
type arithmetic[T any] struct {
	of       func(a api.Num) T
	add, mul func(a, b T) T
}

// vectors yields x, and again and again the vector that results from the last one: for each row the sum
// of its chances, each multiplied by the number of its state.
func vectors[T any](k arithmetic[T], rows [][]api.Branch, x []api.Num) iter.Seq[[]T] {
	return func(yield func([]T) bool) {
		factors := make([][]T, len(rows))
		now := make([]T, len(rows))
		for i, row := range rows {
			now[i] = k.of(x[i])
			for _, branch := range row {
				factors[i] = append(factors[i], k.of(branch.Chance))
			}
		}
		for yield(now) {
			next := make([]T, len(rows))
			for i, row := range rows {
				for j, branch := range row {
					next[i] = k.add(next[i], k.mul(factors[i][j], now[branch.To]))
				}
			}
			now = next
		}
	}
}

// nth returns the vector that is preceded by n others.
func nth[T any](vectors iter.Seq[[]T], n int) []T {
	for x := range vectors {
		if n == 0 {
			return x
		}
		n--
	}
	return nil
}

// repeat returns vector n of vectors, or ErrFull if it is not valid. Most vectors that are not valid
// are refused before a long number has been computed.
func repeat(rows [][]api.Branch, x []api.Num, n int) ([]api.Num, api.Errno) {
	_, found := residue.Guess(func(f residue.Field) []uint64 {
		return nth(vectors(arithmetic[uint64]{f.Of, f.Add, f.Mul}, rows, x), n)
	})
	if !found {
		return nil, api.ErrFull
	}
	rationals := arithmetic[exact.Rat]{exact.Of, exact.Rat.Add, exact.Rat.Mul}
	return exact.Nums(nth(vectors(rationals, rows, x), n))
}

// checkCount returns ErrRange unless n is a possible number of steps.
func checkCount(n int) api.Errno {
	if n < 0 || n > maxCount {
		return api.ErrRange
	}
	return api.OK
}

// After returns the distribution after n steps if that of the first state is d. It returns ErrArg if m
// or d is not valid, ErrKind unless m is a chain, ErrRange unless n is from 0 to 1000, and ErrFull
// if the distribution is not valid.
func After(m api.Model, d []api.Num, n int) ([]api.Num, api.Errno) {
	if e := check(m, func() bool { return isDistribution(m, d) }); e != api.OK {
		return nil, e
	}
	if e := checkCount(n); e != api.OK {
		return nil, e
	}
	return repeat(incoming(m), d, n)
}

// Within returns for each state the chance of reaching goal with at most n steps. It returns ErrArg if m
// or goal is not valid, ErrKind unless m is a chain, ErrRange unless n is from 0 to 1000, and
// ErrFull if a chance is not valid.
func Within(m api.Model, goal []int, n int) ([]api.Num, api.Errno) {
	if e := checkSet(m, goal); e != api.OK {
		return nil, e
	}
	if e := checkCount(n); e != api.OK {
		return nil, e
	}
	rows := make([][]api.Branch, len(m.States))
	first := slices.Repeat([]api.Num{whole(0)}, len(m.States))
	for s := range rows {
		rows[s] = branches(m, s)
	}
	for _, s := range goal {
		rows[s] = []api.Branch{{To: s, Chance: whole(1)}}
		first[s] = whole(1)
	}
	return repeat(rows, first, n)
}

// Reward returns for each state the expected reward of a path with n steps. It returns ErrArg if m is
// not valid, ErrKind unless it is a chain, ErrRange unless n is from 0 to 1000, and ErrFull if a
// reward is not valid.
func Reward(m api.Model, n int) ([]api.Num, api.Errno) {
	if e := check(m, func() bool { return true }); e != api.OK {
		return nil, e
	}
	if e := checkCount(n); e != api.OK {
		return nil, e
	}
	// one more number is always 1, so that each row can add the reward of its state
	count := len(m.States)
	rows := make([][]api.Branch, count+1)
	first := slices.Repeat([]api.Num{whole(0)}, count+1)
	for s, state := range m.States {
		rows[s] = append(slices.Clone(branches(m, s)), api.Branch{To: count, Chance: state.Choices[0].Reward})
	}
	rows[count] = []api.Branch{{To: count, Chance: whole(1)}}
	first[count] = whole(1)
	out, e := repeat(rows, first, n)
	if e != api.OK {
		return nil, e
	}
	return out[:count:count], api.OK
}
