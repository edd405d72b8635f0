// Package linear solves systems of linear equations whose numbers may be of any size. It follows Dixon:
// the residues of the solution modulo one prime lead to those modulo its powers, so that
// the effort depends on how long the solution is and not on numbers on the way to it.
package linear

import (
	"dicebox/exact"
	"dicebox/residue"
)

// term is a number of a row that is not 0.
type term struct {
	column int
	factor exact.Int
}

// system is a system of equations with integers.
type system struct {
	rows  [][]term
	right []exact.Int
}

// Solve returns the only list x for which each row of a, multiplied by x, results in the
// corresponding number of b, and whether there is exactly one. The rows of a are as long as b and
// as many.
func Solve(a [][]exact.Rat, b []exact.Rat) ([]exact.Rat, bool) {
	s := system{make([][]term, len(a)), make([]exact.Int, len(a))}
	for i, row := range a {
		s.rows[i], s.right[i] = whole(row, b[i])
	}
	f, inverse, found := s.inverse()
	if !found {
		return nil, false
	}
	return s.lift(f, inverse), true
}

// whole returns the terms of a row and the number to its right, both multiplied by the least number
// that makes them integers.
func whole(row []exact.Rat, right exact.Rat) ([]term, exact.Int) {
	low := exact.Common(append([]exact.Rat{right}, row...))
	var out []term
	for j, number := range row {
		if number.Sign() != 0 {
			out = append(out, term{j, number.Times(low)})
		}
	}
	return out, right.Times(low)
}

// inverse returns a field in which the rows have an inverse, and that. There is none if so many primes
// divide the determinant that their product exceeds it: then it is 0.
func (s system) inverse() (residue.Field, [][]uint64, bool) {
	need := 0
	for _, row := range s.rows {
		need += rowBits(row)
	}
	for f := range residue.Fields {
		if out, found := s.inverseIn(f); found {
			return f, out, true
		}
		need -= residue.Bits
		if need < 0 {
			break
		}
	}
	return residue.Field{}, nil, false
}

// rowBits returns a number n so that the sum of the absolute values of a row is less than 2^n.
func rowBits(row []term) int {
	var sum exact.Int
	for _, t := range row {
		sum = sum.Add(t.factor.Abs())
	}
	return sum.Bits()
}

// inverseIn returns the inverse of the rows in a field, and whether there is one.
func (s system) inverseIn(f residue.Field) ([][]uint64, bool) {
	n := len(s.rows)
	table := make([][]uint64, n)
	for i, row := range s.rows {
		table[i] = make([]uint64, 2*n)
		table[i][n+i] = 1
		for _, t := range row {
			table[i][t.column] = f.Modulo(t.factor)
		}
	}
	for j := range n {
		if !clearColumn(f, table, j) {
			return nil, false
		}
	}
	for i, row := range table {
		table[i] = row[n:]
	}
	return table, true
}

// clearColumn gives row j the number 1 in column j and the other rows 0, and reports whether it can.
func clearColumn(f residue.Field, table [][]uint64, j int) bool {
	lead := j
	for table[lead][j] == 0 {
		lead++
		if lead == len(table) {
			return false
		}
	}
	table[j], table[lead] = table[lead], table[j]
	factor := f.Inverse(table[j][j])
	for k, x := range table[j] {
		table[j][k] = f.Mul(x, factor)
	}
	for i, row := range table {
		factor := row[j]
		if i == j || factor == 0 {
			continue
		}
		for k, x := range table[j] {
			row[k] = f.Sub(row[k], f.Mul(factor, x))
		}
	}
	return true
}
