package matrix

import (
	"dicebox/api"
	"dicebox/exact"
	"dicebox/residue"
	"math"
	"math/bits"
	"slices"
)

// image is the reduced form of a table, computed with residues modulo one prime.
type image struct {
	field residue.Field
	rows  [][]uint64
	leads []int  // the columns of the leading numbers
	det   uint64 // the determinant of the table, if it is square
}

// imageOf returns the image of a in a field.
func imageOf(a [][]api.Num, f residue.Field) image {
	m := image{field: f, rows: each(a, f.Of), det: 1}
	for j := range width(a) {
		m.clearColumn(j)
	}
	return m
}

// clearColumn finds a leading number in column j and clears the other numbers of the column, unless
// all numbers are 0 below the rows with leading numbers.
func (m *image) clearColumn(j int) {
	f, next := m.field, len(m.leads)
	found := slices.IndexFunc(m.rows[next:], func(row []uint64) bool { return row[j] != 0 })
	if found < 0 {
		m.det = 0
		return
	}
	if found > 0 {
		m.rows[next], m.rows[next+found] = m.rows[next+found], m.rows[next]
		m.det = f.Sub(0, m.det)
	}
	lead := m.rows[next]
	m.det = f.Mul(m.det, lead[j])
	inverse := f.Inverse(lead[j])
	for k, x := range lead {
		lead[k] = f.Mul(x, inverse)
	}
	for i, row := range m.rows {
		if factor := row[j]; i != next && factor != 0 {
			combine(row, lead, func(x, y uint64) uint64 { return f.Sub(x, f.Mul(factor, y)) })
		}
	}
	m.leads = append(m.leads, j)
}

// isFull reports whether there are leading numbers in as many columns as there can be, and
// these are the first ones. Then no other prime could have more or earlier ones.
func (m *image) isFull() bool {
	count := len(m.leads)
	if count < len(m.rows) && count < len(m.rows[0]) {
		return false
	}
	return count == 0 || m.leads[count-1] == count-1
}

// twin consists of two images of a table whose leading numbers are in the same columns as those
// of its reduced form.
type twin [2]image

// survey returns a twin of a. Modulo a prime, leading numbers can only come too late or be missing, so
// the earliest columns are kept. They are the right ones if the product of all primes that agree
// on them is greater than each minor of a: otherwise all these primes would divide a minor that
// is not 0.
func survey(a [][]api.Num) twin {
	var out twin
	count, need := 0, minorBits(a)
	for f := range residue.Fields {
		next := imageOf(a, f)
		order := 0
		if count > 0 {
			order = compareLeads(next.leads, out[0].leads)
		}
		switch {
		case order > 0:
			continue
		case order < 0:
			count = 0
		}
		if count < len(out) {
			out[count] = next
		}
		count++
		if count >= len(out) && (out[0].isFull() || count*residue.Bits >= need) {
			break
		}
	}
	return out
}

// compareLeads returns -1, 0 or 1 if, at the first difference, l has its leading number earlier than m,
// there is no difference, or l has it later or not at all.
func compareLeads(l, m []int) int {
	return slices.Compare(append(slices.Clone(l), math.MaxInt), append(slices.Clone(m), math.MaxInt))
}

// minorBits returns a number n so that 2^n is greater than the product of the common lower numbers of
// all rows of a, and than each minor of a after its rows have been multiplied by them.
func minorBits(a [][]api.Num) int {
	sum := 0
	for _, row := range a {
		sum += rowBits(row)
	}
	return sum
}

// rowBits returns a number n so that 2^n is greater than the common lower number of a row, and than
// the sum of the absolute values of the row after it has been multiplied by it.
func rowBits(row []api.Num) int {
	low, top := exact.Whole(1), 0
	for _, number := range row {
		next := exact.Whole(number.Low)
		multiple, _ := next.Divide(low.Divisor(next))
		low = low.Mul(multiple)
		top = max(top, number.Top, -number.Top)
	}
	return low.Bits() + bits.Len(uint(top)) + bits.Len(uint(len(row)))
}

// numbers returns the valid numbers in row i of the reduced form from column first to the one
// before end, and whether there are such that fit.
func (t twin) numbers(i, first, end int) ([]api.Num, bool) {
	out := make([]api.Num, end-first)
	for k := range out {
		number, found := residue.Rebuild(t[0].field, t[1].field, t[0].rows[i][first+k], t[1].rows[i][first+k])
		if !found {
			return nil, false
		}
		out[k] = number
	}
	return out, true
}
