package simplex

import (
	"cmp"
	"dicebox/exact"
	"slices"
)

// tooLong is the kind of the outcome that the numbers of the table have become too long.
const tooLong = -1

// patience, multiplied by the number of variables, is the number of exchanges after which a table
// no longer looks for the greatest gain: that takes fewer exchanges, but may go on forever.
const patience = 10

// table is a simplex table. Its variables are the numbers of x (from 0) and, after them, one for each
// row: what the weighted sum lacks to the number of Right. In each row of the table, the sum of
// its base variable and of the free variables, weighted with the cells, is the last cell. So
// all equations hold if the free variables are 0 and the base variables the last cells. All
// cells are integers that stand for their quotients by low: with one common lower number,
// each exchange of variables divides without rest.
type table struct {
	cells     [][]exact.Int // those of the rows, of the worth, and of a worth that helps to begin
	low       exact.Int     // greater than 0
	base      []int         // the variable of each row
	free      []int         // the variable of each column
	scales    []exact.Int   // by what the rows of the problem, and then the goal, were multiplied
	maxBits   int           // the greatest length of the common lower number, 0 if any is admitted
	exchanges int
}

// newTable returns the table of p in which all numbers of x are free.
func newTable(p Problem, maxBits int) *table {
	t := &table{low: exact.Whole(1), maxBits: maxBits}
	for i, row := range p.Rows {
		t.addRow(append(slices.Clone(row), p.Right[i]))
		t.base = append(t.base, len(p.Goal)+i)
	}
	worth := make([]exact.Rat, len(p.Goal)+1)
	for j, goal := range p.Goal {
		worth[j] = goal.Neg()
		t.free = append(t.free, j)
	}
	one := exact.Ratio(exact.Whole(1), exact.Whole(1))
	t.addRow(worth)
	t.addRow(append(slices.Repeat([]exact.Rat{one}, len(p.Goal)), exact.Rat{}))
	return t
}

// addRow adds a row with these numbers, multiplied by the least integer that makes integers of them.
func (t *table) addRow(numbers []exact.Rat) {
	scale := exact.Common(numbers)
	row := make([]exact.Int, len(numbers))
	for j, number := range numbers {
		row[j] = number.Times(scale)
	}
	t.cells = append(t.cells, row)
	t.scales = append(t.scales, scale)
}

// isTooLong reports whether the common lower number is longer than the table admits.
func (t *table) isTooLong() bool {
	return t.maxBits > 0 && t.low.Bits() > t.maxBits
}

// last returns the last cell of row i.
func (t *table) last(i int) exact.Int {
	return t.cells[i][len(t.free)]
}

// worth returns the cells of the worth.
func (t *table) worth() []exact.Int {
	return t.cells[len(t.base)]
}

// helper returns the cells of the worth that decreases with each number of x. No feasible vector
// exceeds its first value, so that steps towards feasible vectors can be measured by it.
func (t *table) helper() []exact.Int {
	return t.cells[len(t.base)+1]
}

// solve exchanges variables until the table shows the outcome. It returns its kind and the number of
// the row that shows that no vector is feasible, or of the column with an unbounded worth.
func (t *table) solve() (int, int) {
	if kind, at := t.repair(); kind != Optimal {
		return kind, at
	}
	t.cells = t.cells[:len(t.base)+1]
	return t.improve()
}

// repair makes all last cells at least 0. All cells of the helper are at least 0 throughout.
func (t *table) repair() (int, int) {
	for !t.isTooLong() {
		row := t.brokenRow()
		if row < 0 {
			return Optimal, 0
		}
		column := t.repairingColumn(row)
		if column < 0 {
			return Infeasible, row
		}
		t.exchange(row, column)
	}
	return tooLong, 0
}

// improve makes all cells of the worth at least 0. All last cells are at least 0 throughout.
func (t *table) improve() (int, int) {
	for !t.isTooLong() {
		column := t.gainingColumn()
		if column < 0 {
			return Optimal, 0
		}
		row := t.limitingRow(column)
		if row < 0 {
			return Unbounded, column
		}
		t.exchange(row, column)
	}
	return tooLong, 0
}

// pick returns the least position below n in the given order, of those that are admitted; -1 if there
// is none.
func pick(n int, admitted func(i int) bool, order func(i, j int) int) int {
	best := -1
	for i := range n {
		if admitted(i) && (best < 0 || order(i, best) < 0) {
			best = i
		}
	}
	return best
}

// isGreedy reports whether the next exchange is the one that promises the greatest gain; otherwise
// it is that of the first variables that are possible, which always comes to an end.
func (t *table) isGreedy() bool {
	return t.exchanges < patience*(len(t.base)+len(t.free))
}

// brokenRow returns a row whose last cell is less than 0.
func (t *table) brokenRow() int {
	return pick(len(t.base), func(i int) bool {
		return t.last(i).Sign() < 0
	}, func(i, j int) int {
		if order := t.last(i).Cmp(t.last(j)); order != 0 && t.isGreedy() {
			return order
		}
		return cmp.Compare(t.base[i], t.base[j])
	})
}

// repairingColumn returns the column with which row i can be repaired at the least loss for the helper.
func (t *table) repairingColumn(i int) int {
	row, helper := t.cells[i], t.helper()
	return pick(len(t.free), func(j int) bool {
		return row[j].Sign() < 0
	}, func(j, k int) int {
		left, right := helper[j].Mul(row[k]), helper[k].Mul(row[j])
		return cmp.Or(right.Cmp(left), cmp.Compare(t.free[j], t.free[k]))
	})
}

// gainingColumn returns a column whose variable increases the worth.
func (t *table) gainingColumn() int {
	worth := t.worth()
	return pick(len(t.free), func(j int) bool {
		return worth[j].Sign() < 0
	}, func(j, k int) int {
		if order := worth[j].Cmp(worth[k]); order != 0 && t.isGreedy() {
			return order
		}
		return cmp.Compare(t.free[j], t.free[k])
	})
}

// limitingRow returns the row whose base variable is the first to become 0 if the variable of
// column j increases.
func (t *table) limitingRow(j int) int {
	return pick(len(t.base), func(i int) bool {
		return t.cells[i][j].Sign() > 0
	}, func(i, k int) int {
		left, right := t.last(i).Mul(t.cells[k][j]), t.last(k).Mul(t.cells[i][j])
		return cmp.Or(left.Cmp(right), cmp.Compare(t.base[i], t.base[k]))
	})
}

// exchange makes the variable of column j the base variable of row i, and that one free. The cell of
// both, which is not 0, becomes the common lower number.
func (t *table) exchange(i, j int) {
	pivot := t.cells[i][j]
	row := slices.Clone(t.cells[i])
	// the column of the variable that becomes free: before, it is 1 in its row and 0 elsewhere
	row[j] = t.low
	if pivot.Sign() < 0 {
		pivot, row = pivot.Neg(), negative(row)
	}
	for k, other := range t.cells {
		t.cells[k] = t.reduced(other, row, pivot, j)
	}
	t.cells[i] = row
	t.low = pivot
	t.base[i], t.free[j] = t.free[j], t.base[i]
	t.exchanges++
}

// negative returns the row with the opposite signs.
func negative(row []exact.Int) []exact.Int {
	out := make([]exact.Int, len(row))
	for i, cell := range row {
		out[i] = cell.Neg()
	}
	return out
}

// reduced returns what becomes of a row if the variable of column j is eliminated by means of the row
// by, in which its cell was pivot.
func (t *table) reduced(row, by []exact.Int, pivot exact.Int, j int) []exact.Int {
	factor := row[j]
	if factor.Sign() == 0 && pivot.Cmp(t.low) == 0 {
		return row
	}
	out := make([]exact.Int, len(row))
	for k, cell := range row {
		change := factor.Mul(by[k]).Neg()
		if k != j {
			change = change.Add(cell.Mul(pivot))
		}
		out[k], _ = change.Divide(t.low)
	}
	return out
}
