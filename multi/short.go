package multi

import (
	"dicebox/api"
	"dicebox/exact"
)

// precisions returns the numbers of binary digits to which long chances are rounded. Rounded weights most often refute
// a demand, too, and rounded lotteries meet it, unless it lies very close to the greatest ones that are met.
func precisions() []int {
	return []int{20, 40, 59}
}

// rounded returns chances with the sum 1 close to those of l, which have the sum 1; their lower numbers are at most
// 2^digits.
func rounded(l []exact.Rat, digits int) []exact.Rat {
	scale := exact.Whole(1 << digits)
	rest, greatest := scale, 0
	tops := make([]exact.Int, len(l))
	for i, a := range l {
		tops[i], _ = a.Top().Mul(scale).Divide(a.Low())
		rest = rest.Sub(tops[i])
		if a.Cmp(l[greatest]) > 0 {
			greatest = i
		}
	}
	tops[greatest] = tops[greatest].Add(rest)
	out := make([]exact.Rat, len(l))
	for i, top := range tops {
		out[i] = exact.Ratio(top, scale)
	}
	return out
}

// refutedBy reports whether weights refute the demand.
func (p program) refutedBy(weights []exact.Rat) bool {
	return p.best(weights).worth(weights).Cmp(dot(weights, p.demand)) < 0
}

// shortWeights returns weights that refute the demand as numbers, if necessary other ones close to them, or ErrFull
// if it finds none.
func (p program) shortWeights(weights []exact.Rat) ([]api.Num, api.Errno) {
	out, e := exact.Nums(weights)
	if e == api.OK {
		return out, e
	}
	for _, digits := range precisions() {
		if near := rounded(weights, digits); p.refutedBy(near) {
			return exact.Nums(near)
		}
	}
	return nil, e
}

// shortLottery returns a lottery that meets the demand as numbers, if necessary another one close to it, or ErrFull if
// it finds none.
func (p program) shortLottery(m api.Model, goals [][]int, blend []share) ([][]api.Num, api.Errno) {
	lottery := p.lottery(blend)
	out, e := numbersOf(lottery)
	if e == api.OK {
		return out, e
	}
	for _, digits := range precisions() {
		near := make([][]exact.Rat, len(lottery))
		for s, chances := range lottery {
			near[s] = rounded(chances, digits)
		}
		numbers, _ := numbersOf(near)
		if reaches(outcomeOf(m, goals, numbers), p.demand) {
			return numbers, api.OK
		}
	}
	return nil, e
}
