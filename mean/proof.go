package mean

import (
	"dicebox/api"
	"dicebox/exact"
	"dicebox/fraction"
	"dicebox/model"
	"dicebox/num"
	"slices"
)

// Proof proves that its values are those of a model and max, and that its choices are an optimal strategy.
type Proof struct {
	Value, Bias []api.Num
	Pick        []int
}

// Prove returns a proof. It returns ErrArg if m is not valid, and ErrFull if a value, or a bias that it finds, is
// not valid.
func Prove(m api.Model, max bool) (Proof, api.Errno) {
	if !model.Valid(m) {
		return Proof{}, api.ErrArg
	}
	w := newGame(m, max).solve()
	values, e := exact.Nums(w.average)
	if e != api.OK {
		return Proof{}, e
	}
	biases, e := exact.Nums(w.bias)
	if e != api.OK {
		return Proof{}, e
	}
	return Proof{values, biases, w.pick}, api.OK
}

// Check reports whether p is a proof. It returns ErrArg if m is not valid.
func Check(m api.Model, max bool, p Proof) (bool, api.Errno) {
	valid, e := model.ValidStrategy(m, p.Pick)
	if e != api.OK {
		return false, e
	}
	n := len(m.States)
	if !valid || len(p.Value) != n || len(p.Bias) != n || !areValid(p.Value) || !areValid(p.Bias) {
		return false, api.OK
	}
	for s, state := range m.States {
		for i, choice := range state.Choices {
			if sign := p.compare(choice, s, max); sign < 0 || i == p.Pick[s] && sign > 0 {
				return false, api.OK
			}
		}
	}
	return true, api.OK
}

// areValid reports whether all numbers of a list are valid.
func areValid(l []api.Num) bool {
	return !slices.ContainsFunc(l, func(a api.Num) bool { return !num.Valid(a) })
}

// compare returns 1 if what a proof with n states says of the state s is better than what results from a choice, -1
// if it is worse, and 0 if both are the same: first the value and the mean of the values, and if these
// are equal, the sums with the biases.
func (p Proof) compare(choice api.Choice, s int, max bool) int {
	value := fraction.Of(p.Value[s])
	sign := value.Cmp(fraction.Mean(choice, p.Value))
	if sign == 0 {
		own := value.Add(fraction.Of(p.Bias[s]))
		sign = own.Cmp(fraction.Of(choice.Reward).Add(fraction.Mean(choice, p.Bias)))
	}
	if max {
		return sign
	}
	return -sign
}
