package linear

import (
	"dicebox/exact"
	"dicebox/residue"
)

// lifting is what is known of a solution after some steps.
type lifting struct {
	system
	field   residue.Field
	inverse [][]uint64
	numbers []exact.Int // the residues of the solution modulo a power of the prime
	power   exact.Int   // that power
	rest    []exact.Int // what the right side still lacks with these numbers, divided by the power
}

// lift returns the solution. Its residues modulo the square of a power of the prime determine it as
// soon as its parts are less than half of the power; that they are is seen from the equations.
func (s system) lift(f residue.Field, inverse [][]uint64) []exact.Rat {
	now := lifting{s, f, inverse, make([]exact.Int, len(s.rows)), exact.Whole(1), s.right}
	now.step()
	for count := 1; ; count *= 2 {
		limit, _ := now.power.Divide(exact.Whole(2))
		for range count {
			now.step()
		}
		if tops, low, found := now.guess(limit); found && s.hold(tops, low) {
			return quotients(tops, low)
		}
	}
}

// step finds the residues modulo the next power of the prime.
func (now *lifting) step() {
	digits := now.digits()
	prime := now.field.Prime()
	for j, digit := range digits {
		now.numbers[j] = now.numbers[j].Add(now.power.Mul(digit))
	}
	rest := make([]exact.Int, len(now.rest))
	for i, row := range now.rows {
		rest[i], _ = now.rest[i].Sub(dot(row, digits)).Divide(prime)
	}
	now.rest = rest
	now.power = now.power.Mul(prime)
}

// digits returns the residues of the numbers that the rows map to the rest.
func (now *lifting) digits() []exact.Int {
	f := now.field
	rest := make([]uint64, len(now.rest))
	for i, number := range now.rest {
		rest[i] = f.Modulo(number)
	}
	out := make([]exact.Int, len(rest))
	for i, row := range now.inverse {
		var sum uint64
		for j, factor := range row {
			sum = f.Add(sum, f.Mul(factor, rest[j]))
		}
		out[i] = exact.Unsigned(sum)
	}
	return out
}

// dot returns the sum of the terms of a row, each multiplied by the number of its column.
func dot(row []term, numbers []exact.Int) exact.Int {
	var sum exact.Int
	for _, t := range row {
		sum = sum.Add(t.factor.Mul(numbers[t.column]))
	}
	return sum
}

// guess returns rational numbers with the residues so far, as upper numbers and a common lower
// number, and whether it has found some. Most often the lower number is known after the first
// one or two, so that the others are found at once.
func (now *lifting) guess(limit exact.Int) ([]exact.Int, exact.Int, bool) {
	low := exact.Whole(1)
	tops := make([]exact.Int, len(now.numbers))
	for i, number := range now.numbers {
		_, a := number.Mul(low).Divide(now.power)
		part, found := residue.Fraction(a, now.power, limit)
		if !found {
			return nil, exact.Int{}, false
		}
		for j := range i {
			tops[j] = tops[j].Mul(part.Low())
		}
		tops[i] = part.Top()
		low = low.Mul(part.Low())
	}
	return tops, low, true
}

// hold reports whether the equations hold for these numbers, all divided by low.
func (s system) hold(tops []exact.Int, low exact.Int) bool {
	for i, row := range s.rows {
		if dot(row, tops).Cmp(s.right[i].Mul(low)) != 0 {
			return false
		}
	}
	return true
}

// quotients returns the numbers divided by low.
func quotients(tops []exact.Int, low exact.Int) []exact.Rat {
	out := make([]exact.Rat, len(tops))
	for i, top := range tops {
		out[i] = exact.Ratio(top, low)
	}
	return out
}
