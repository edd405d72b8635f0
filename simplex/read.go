package simplex

import "dicebox/exact"

// value returns the value of a cell.
func (t *table) value(cell exact.Int) exact.Rat {
	return exact.Ratio(cell, t.low)
}

// worthOf returns the value of a cell of the worth, which newTable has multiplied.
func (t *table) worthOf(cell exact.Int) exact.Rat {
	return exact.Ratio(cell, t.low.Mul(t.scales[len(t.base)]))
}

// vector returns the numbers of x if all free variables are 0.
func (t *table) vector() []exact.Rat {
	out := make([]exact.Rat, len(t.free))
	for i, variable := range t.base {
		if variable < len(out) {
			out[variable] = t.value(t.last(i))
		}
	}
	return out
}

// ray returns how the numbers of x change while the variable of column j increases.
func (t *table) ray(j int) []exact.Rat {
	out := make([]exact.Rat, len(t.free))
	for i, variable := range t.base {
		if variable < len(out) {
			out[variable] = t.value(t.cells[i][j].Neg())
		}
	}
	if t.free[j] < len(out) {
		out[t.free[j]] = exact.Ratio(exact.Whole(1), exact.Whole(1))
	}
	return shortened(out)
}

// bound returns the factors of the rows whose sum shows that no worth is greater: the cells of the
// worth below the variables of the rows.
func (t *table) bound() []exact.Rat {
	out := make([]exact.Rat, len(t.base))
	for j, variable := range t.free {
		if i := variable - len(t.free); i >= 0 {
			out[i] = t.worthOf(t.worth()[j].Mul(t.scales[i]))
		}
	}
	return out
}

// contradiction returns the factors of the rows whose sum is row i, in which the last cell is less
// than 0 and no other one is.
func (t *table) contradiction(i int) []exact.Rat {
	out := make([]exact.Rat, len(t.base))
	for j, variable := range t.free {
		if k := variable - len(t.free); k >= 0 {
			out[k] = t.value(t.cells[i][j].Mul(t.scales[k]))
		}
	}
	if k := t.base[i] - len(t.free); k >= 0 {
		out[k] = t.value(t.low.Mul(t.scales[k]))
	}
	return shortened(out)
}

// shortened returns the multiple of a list in which the first number other than 0 is 1: all multiples
// prove the same, but not all of them consist of valid numbers.
func shortened(l []exact.Rat) []exact.Rat {
	out := make([]exact.Rat, len(l))
	var first exact.Rat
	for i, a := range l {
		if first.Sign() == 0 {
			first = a
		}
		if a.Sign() != 0 {
			out[i] = a.Quo(first)
		}
	}
	return out
}
