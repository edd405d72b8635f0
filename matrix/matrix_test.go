package matrix

import (
	"dicebox/api"
	"dicebox/residue"
	"math"
	"math/big"
	"math/rand"
	"slices"
	"testing"
)

// table is short for a matrix.
type table = [][]api.Num

// notValid contains matrices that break each part of the definition.
func notValid() []table {
	return []table{
		{row(1), row(1, 2)}, {row(1, 2), nil}, {nil, row(1)}, {{{}}}, {{of(2, 4)}}, {row(1, 2), {of(1, 1), of(math.MinInt, 1)}}, {{of(1, -1)}},
		make(table, api.MaxCells+1), {zeros(api.MaxCells + 1)}, append(unit(api.MaxCells), zeros(api.MaxCells)),
	}
}

// notVectors contains lists of numbers that are not vectors.
func notVectors() [][]api.Num {
	return [][]api.Num{{{}}, {of(1, 1), of(4, 2)}, zeros(api.MaxCells + 1)}
}

// expect compares a matrix and an error with what they must be.
func expect(t *testing.T, got table, e api.Errno, want table, wantError api.Errno, call ...any) {
	t.Helper()
	if e != wantError || len(got) != len(want) || !isEqual(got, want) || e != api.OK && got != nil {
		t.Fatalf("%v: %v, error %d instead of %v, error %d", call, got, e, want, wantError)
	}
}

// expectOne compares a number and an error with what they must be.
func expectOne(t *testing.T, got api.Num, e api.Errno, want api.Num, wantError api.Errno, call ...any) {
	t.Helper()
	if got != want || e != wantError {
		t.Fatalf("%v: %v, error %d instead of %v, error %d", call, got, e, want, wantError)
	}
}

// expectSolve compares the results of Solve with what they must be.
func expectSolve(t *testing.T, a table, b []api.Num, want int, wantVector []api.Num, wantError api.Errno) {
	t.Helper()
	if k, x, e := Solve(a, b); k != want || !slices.Equal(x, wantVector) || e != wantError {
		t.Fatalf("Solve %v %v: %d %v, error %d instead of %d %v, error %d", a, b, k, x, e, want, wantVector, wantError)
	}
}

// P2.1
func TestValid(t *testing.T) {
	for _, a := range []table{nil, {}, {nil}, {nil, {}}, {row(1, 2), row(3, 4)}, {{of(-1, 2)}}, unit(api.MaxCells), make(table, api.MaxCells), {zeros(api.MaxCells)}} {
		if !Valid(a) {
			t.Errorf("%v is valid", a)
		}
	}
	for _, a := range notValid() {
		if Valid(a) {
			t.Errorf("%v is not valid", a)
		}
	}
}

// TestNotValid: each function refuses matrices and vectors that are not valid before all else.
func TestNotValid(t *testing.T) {
	for _, bad := range notValid() {
		for _, a := range []table{nil, {row(1, 2, 3)}, bad} {
			got, e := Mul(bad, a)
			expect(t, got, e, nil, api.ErrArg, "Mul", bad, a)
			got, e = Mul(a, bad)
			expect(t, got, e, nil, api.ErrArg, "Mul", a, bad)
		}
		for _, x := range append(notVectors(), nil, row(1, 2, 3)) {
			if got, e := Apply(bad, x); got != nil || e != api.ErrArg {
				t.Errorf("Apply %v %v: %v %d", bad, x, got, e)
			}
			expectSolve(t, bad, x, 0, nil, api.ErrArg)
		}
		for _, n := range []int{-1, 0, 1, 1001} {
			got, e := Power(bad, n)
			expect(t, got, e, nil, api.ErrArg, "Power", bad, n)
		}
		got, e := Reduce(bad)
		expect(t, got, e, nil, api.ErrArg, "Reduce", bad)
		got, e = Inverse(bad)
		expect(t, got, e, nil, api.ErrArg, "Inverse", bad)
		if k, e := Rank(bad); k != 0 || e != api.ErrArg {
			t.Errorf("Rank %v: %d %d", bad, k, e)
		}
		d, e := Det(bad)
		expectOne(t, d, e, api.Num{}, api.ErrArg, "Det", bad)
	}
	for _, x := range notVectors() {
		for _, a := range []table{nil, {row(1)}, {row(1, 2, 3)}} {
			if got, e := Apply(a, x); got != nil || e != api.ErrArg {
				t.Errorf("Apply %v %v: %v %d", a, x, got, e)
			}
			expectSolve(t, a, x, 0, nil, api.ErrArg)
		}
	}
}

// P2.2
func TestMul(t *testing.T) {
	r := rand.New(rand.NewSource(1))
	for _, next := range draws() {
		for range 60 {
			l, m, n := r.Intn(5)+1, r.Intn(5)+1, r.Intn(5)+1
			a, b := sample(r, l, m, next), sample(r, m, n, next)
			want, wantError := exactResult(exactProduct(wide(a), wide(b), n))
			got, e := Mul(a, b)
			expect(t, got, e, want, wantError, "Mul", a, b)
			x := column(b, 0)
			want, wantError = exactResult(exactProduct(wide(a), wide(b), 1))
			vector, e := Apply(a, x)
			if e != wantError || e == api.OK && !slices.Equal(vector, column(want, 0)) || e != api.OK && vector != nil {
				t.Fatalf("Apply %v %v: %v %d", a, x, vector, e)
			}
		}
	}
}

func TestMulEdges(t *testing.T) {
	good := []struct{ a, b, want table }{
		{nil, nil, nil},
		{nil, table{row(1, 2)}, nil},
		{table{}, table{nil, nil, nil}, nil},
		{table{nil, nil}, nil, table{nil, nil}},
		{table{row(1, 2)}, table{nil, nil}, table{nil}},
		{table{row(2)}, table{row(3, 4)}, table{row(6, 8)}},
		{table{row(api.MaxNum, api.MaxNum, 1)}, table{row(api.MaxNum), row(-api.MaxNum), row(5)}, table{row(5)}},
		{unit(api.MaxCells), unit(api.MaxCells), unit(api.MaxCells)},
	}
	for _, c := range good {
		got, e := Mul(c.a, c.b)
		expect(t, got, e, c.want, api.OK, "Mul", c.a, c.b)
	}
	for _, c := range [][2]table{{{row(1, 2)}, {row(1, 2)}}, {{row(1)}, nil}, {{nil}, {row(1)}}, {{nil}, {nil}}, {{row(api.MaxNum)}, {row(2), row(3)}}} {
		got, e := Mul(c[0], c[1])
		expect(t, got, e, nil, api.ErrDim, "Mul", c[0], c[1])
	}
	got, e := Mul(table{row(1), row(api.MaxNum)}, table{row(1, 2)})
	expect(t, got, e, nil, api.ErrFull, "Mul")
}

func TestApplyEdges(t *testing.T) {
	good := []struct {
		a       table
		x, want []api.Num
	}{
		{nil, nil, nil}, {nil, row(1, 2, 3), nil}, {table{nil, {}}, nil, row(0, 0)}, {unit(api.MaxCells), zeros(api.MaxCells), zeros(api.MaxCells)},
		{table{{of(1, 2), of(1, 3)}}, []api.Num{of(1, 1), of(-3, 2)}, row(0)},
	}
	for _, c := range good {
		if got, e := Apply(c.a, c.x); e != api.OK || !slices.Equal(got, c.want) {
			t.Errorf("Apply %v %v: %v %d", c.a, c.x, got, e)
		}
	}
	for _, x := range [][]api.Num{nil, row(1), row(1, 2, 3)} {
		if got, e := Apply(table{row(1, 2)}, x); got != nil || e != api.ErrDim {
			t.Errorf("Apply to %v: %v %d", x, got, e)
		}
	}
	if got, e := Apply(table{row(1, 0), row(api.MaxNum, 1)}, row(1, 1)); got != nil || e != api.ErrFull {
		t.Errorf("Apply: %v %d", got, e)
	}
}

// P2.3
func TestPower(t *testing.T) {
	r := rand.New(rand.NewSource(2))
	for _, next := range draws() {
		for range 40 {
			a := sample(r, 1+r.Intn(4), 0, next)
			a = sample(r, len(a), len(a), next)
			out := wide(unit(len(a)))
			for n := range 20 {
				want, wantError := exactResult(out)
				got, e := Power(a, n)
				expect(t, got, e, want, wantError, "Power", a, n)
				out = exactProduct(out, wide(a), len(a))
			}
		}
	}
}

func TestPowerEdges(t *testing.T) {
	const big = api.MaxNum
	nilpotent := table{row(0, big, 1), row(0, 0, big), row(0, 0, 0)} // its square has a long number
	turn := table{row(0, -1), row(1, 0)}
	long := table{row(big-1, -big), row(big-2, 1-big)} // its square has short numbers only
	half := table{{of(1, 2)}}
	third := table{{of(1, 3), of(2, 3)}, {of(1, 3), of(2, 3)}}
	good := []struct {
		a    table
		n    int
		want table
	}{
		{nil, 0, nil}, {nil, 1000, nil}, {table{row(0)}, 0, table{row(1)}}, {table{row(0)}, 7, table{row(0)}}, {table{row(-1)}, 999, table{row(-1)}},
		{nilpotent, 1, nilpotent}, {nilpotent, 3, table{row(0, 0, 0), row(0, 0, 0), row(0, 0, 0)}}, {nilpotent, 1000, table{row(0, 0, 0), row(0, 0, 0), row(0, 0, 0)}},
		{turn, 999, table{row(0, 1), row(-1, 0)}}, {turn, 1000, unit(2)}, {third, 1000, third}, {half, 60, table{{of(1, big)}}},
		{table{row(1, 1), row(0, 1)}, 1000, table{row(1, 1000), row(0, 1)}}, {table{row(1, 1), row(1, 0)}, 10, table{row(89, 55), row(55, 34)}},
		{table{row(2)}, 60, table{row(big)}}, {unit(api.MaxCells), 1000, unit(api.MaxCells)},
	}
	for _, c := range good {
		got, e := Power(c.a, c.n)
		expect(t, got, e, c.want, api.OK, "Power", c.a, c.n)
	}
	got, e := Power(nilpotent, 2)
	expect(t, got, e, nil, api.ErrFull, "Power of a nilpotent matrix")
	got, e = Power(long, 2)
	expect(t, got, e, unit(2), api.OK, "Power of a long root of 1")
	got, e = Power(long, 1000)
	expect(t, got, e, unit(2), api.OK, "Power of a long root of 1")
	for _, c := range []table{half, {row(2)}, {{of(-3, 2)}}, {row(1, 1), row(1, 0)}} {
		got, e := Power(c, 1000)
		expect(t, got, e, nil, api.ErrFull, "Power", c, 1000)
	}
	for _, c := range []table{{nil}, {row(1, 2)}, {row(1), row(2)}} {
		for _, n := range []int{-1, 1, 1001} {
			got, e := Power(c, n)
			expect(t, got, e, nil, api.ErrDim, "Power", c, n)
		}
	}
	for _, n := range []int{-1, 1001, math.MinInt, math.MaxInt} {
		got, e := Power(half, n)
		expect(t, got, e, nil, api.ErrRange, "Power", n)
		got, e = Power(nil, n)
		expect(t, got, e, nil, api.ErrRange, "Power of nothing", n)
	}
}

// checkReduce compares Reduce and Rank with the exact results.
func checkReduce(t *testing.T, a table) {
	t.Helper()
	exact, leads, _ := exactReduce(wide(a))
	want, wantError := exactResult(exact)
	got, e := Reduce(a)
	expect(t, got, e, want, wantError, "Reduce", a)
	if k, e := Rank(a); k != len(leads) || e != api.OK {
		t.Fatalf("Rank %v: %d %d instead of %d", a, k, e, len(leads))
	}
	if got == nil {
		return
	}
	again, e := Reduce(got) // P2.9
	expect(t, again, e, got, api.OK, "Reduce", got)
}

// P2.4, P2.9
func TestReduce(t *testing.T) {
	r := rand.New(rand.NewSource(3))
	for _, next := range draws() {
		for range 200 {
			checkReduce(t, sample(r, r.Intn(6), r.Intn(6), next))
		}
	}
	for range 100 {
		checkReduce(t, short(r, 1+r.Intn(12), 1+r.Intn(12), r.Intn(6)))
	}
	for _, a := range []table{nil, {}, {nil}, {nil, nil}, {row(0)}, {row(0), row(5)}, {row(0, 0, 7), row(0, 3, 0)}, {{of(1, api.MaxNum)}}, {row(0, 1), row(0, 0), row(2, 0)},
		{{of(1, api.MaxNum), of(1, 1)}, row(0, 0)}, {{of(1, api.MaxNum), of(2, 1)}, row(0, 0)}, unit(api.MaxCells), {zeros(api.MaxCells), zeros(api.MaxCells)}} {
		checkReduce(t, a)
	}
	got, e := Reduce(table{row(2, 4, 6), row(1, 2, 4)})
	expect(t, got, e, table{row(1, 2, 0), row(0, 0, 1)}, api.OK, "example 1")
}

// checkSolve compares Solve with the exact result.
func checkSolve(t *testing.T, a table, b []api.Num) {
	t.Helper()
	last := width(a)
	exact, leads, _ := exactReduce(wide(beside(a, b)))
	if len(leads) > 0 && leads[len(leads)-1] == last {
		expectSolve(t, a, b, 0, nil, api.OK)
		return
	}
	x := zeros(last)
	for i, j := range leads {
		part, e := exactResult([][]*big.Rat{{exact[i][last]}})
		if e != api.OK {
			expectSolve(t, a, b, 0, nil, api.ErrFull)
			return
		}
		x[j] = part[0][0]
	}
	if sums, e := Apply(a, x); e != api.OK || !slices.Equal(sums, b) { // P2.7
		t.Fatalf("%v does not solve %v, %v", x, a, b)
	}
	if len(leads) == last {
		expectSolve(t, a, b, 1, x, api.OK)
		return
	}
	expectSolve(t, a, b, 2, x, api.OK)
}

// P2.5, P2.7
func TestSolve(t *testing.T) {
	r := rand.New(rand.NewSource(4))
	for _, next := range draws() {
		for range 200 {
			m, n := r.Intn(6), r.Intn(6)
			a := sample(r, m, n, next)
			checkSolve(t, a, zeros(m))
			checkSolve(t, a, column(sample(r, m, 1, next), 0))
			if x, e := Apply(a, column(sample(r, width(a), 1, draws()[2]), 0)); e == api.OK {
				checkSolve(t, a, x)
			}
		}
	}
	for range 100 {
		m, n := 1+r.Intn(12), 1+r.Intn(12)
		a := short(r, m, n, r.Intn(6))
		checkSolve(t, a, column(sample(r, m, 1, draws()[0]), 0))
		if x, e := Apply(a, column(sample(r, n, 1, draws()[2]), 0)); e == api.OK {
			checkSolve(t, a, x)
		}
	}
}

func TestSolveEdges(t *testing.T) {
	const big = api.MaxNum
	expectSolve(t, nil, nil, 1, nil, api.OK)
	expectSolve(t, table{nil, nil}, row(0, 0), 1, nil, api.OK)
	expectSolve(t, table{nil, nil}, row(0, 1), 0, nil, api.OK)
	expectSolve(t, table{row(0, 0)}, row(0), 2, row(0, 0), api.OK)
	expectSolve(t, table{row(0, 0)}, row(1), 0, nil, api.OK)
	expectSolve(t, table{row(1, 1)}, row(3), 2, row(3, 0), api.OK) // example 2
	expectSolve(t, table{row(0, 2, 1)}, row(3), 2, []api.Num{of(0, 1), of(3, 2), of(0, 1)}, api.OK)
	expectSolve(t, table{{of(1, big)}}, row(2), 0, nil, api.ErrFull)
	// the reduced form has a number that is not valid, but not in the last column
	expectSolve(t, table{{of(1, big), of(2, 1)}}, row(1), 2, row(big, 0), api.OK)
	expectSolve(t, table{{of(1, big), of(2, 1)}, row(0, 0)}, row(1, 1), 0, nil, api.OK)
	for _, b := range [][]api.Num{nil, row(1), row(1, 2, 3)} {
		expectSolve(t, table{row(1, 1), row(1, 2)}, b, 0, nil, api.ErrDim)
	}
	expectSolve(t, nil, row(1), 0, nil, api.ErrDim)
}

// P2.6
func TestDetInverse(t *testing.T) {
	r := rand.New(rand.NewSource(5))
	for _, next := range draws() {
		for range 200 {
			n := r.Intn(6)
			checkDetInverse(t, sample(r, n, n, next))
		}
	}
	for range 50 {
		n := 1 + r.Intn(10)
		checkDetInverse(t, short(r, n, n, n))
	}
	for range 300 {
		// the only long number of the inverse often has the residues of a valid one
		a := unit(3)
		a[0][1], a[1][2] = draws()[4](r), draws()[4](r)
		checkDetInverse(t, a)
	}
	for _, a := range []table{nil, {row(0)}, {row(-5)}, {{of(1, api.MaxNum)}}, {row(0, 1), row(1, 0)}, {row(1, 2), row(2, 4)}, {row(api.MaxNum, 1), row(api.MaxNum-1, 1)}, unit(api.MaxCells)} {
		checkDetInverse(t, a)
	}
	for _, a := range []table{{nil}, {row(1, 2)}, {row(1), row(2)}} {
		d, e := Det(a)
		expectOne(t, d, e, api.Num{}, api.ErrDim, "Det", a)
		got, e := Inverse(a)
		expect(t, got, e, nil, api.ErrDim, "Inverse", a)
	}
}

// checkDetInverse compares Det and Inverse with the exact results.
func checkDetInverse(t *testing.T, a table) {
	t.Helper()
	n := len(a)
	_, _, det := exactReduce(wide(a))
	want, wantError := exactResult([][]*big.Rat{{det}})
	d, e := Det(a)
	if wantError == api.OK {
		expectOne(t, d, e, want[0][0], api.OK, "Det", a)
	} else {
		expectOne(t, d, e, api.Num{}, wantError, "Det", a)
	}
	got, e := Inverse(a)
	if det.Sign() == 0 {
		expect(t, got, e, nil, api.ErrNone, "Inverse", a)
		return
	}
	exact, _, _ := exactReduce(wide(beside(a, unit(n)...)))
	for i := range exact {
		exact[i] = exact[i][n:]
	}
	inverse, wantError := exactResult(exact)
	expect(t, got, e, inverse, wantError, "Inverse", a)
	if e == api.OK {
		back, e := Inverse(got) // P2.8
		expect(t, back, e, a, api.OK, "Inverse", got)
	}
}

// P2.8
func TestProducts(t *testing.T) {
	r := rand.New(rand.NewSource(6))
	for range 300 {
		n := 1 + r.Intn(4)
		next := draws()[r.Intn(3)]
		a, b, c := sample(r, n, n, next), sample(r, n, n, next), sample(r, n, n, next)
		ab, e1 := Mul(a, b)
		bc, e2 := Mul(b, c)
		left, e3 := Mul(ab, c)
		right, e4 := Mul(a, bc)
		if e1 != api.OK || e2 != api.OK || e3 != e4 || !isEqual(left, right) {
			t.Fatalf("products of %v, %v, %v", a, b, c)
		}
		x, e5 := Det(a)
		y, e6 := Det(b)
		xy, e7 := Det(ab)
		product := new(big.Rat).Mul(big.NewRat(int64(x.Top), int64(x.Low)), big.NewRat(int64(y.Top), int64(y.Low)))
		if e5 != api.OK || e6 != api.OK || e7 != api.OK || product.Cmp(big.NewRat(int64(xy.Top), int64(xy.Low))) != 0 {
			t.Fatalf("determinants of %v, %v", a, b)
		}
	}
}

// P2.9
func TestKernel(t *testing.T) {
	r := rand.New(rand.NewSource(7))
	for range 300 {
		m, n := 1+r.Intn(5), 1+r.Intn(5)
		a := sample(r, m, n, draws()[0])
		reduced, _ := Reduce(a)
		x := column(sample(r, n, 1, draws()[0]), 0)
		left, e := Apply(a, x)
		right, e2 := Apply(reduced, x)
		if e != api.OK || e2 != api.OK || slices.Equal(left, zeros(m)) != slices.Equal(right, zeros(m)) {
			t.Fatalf("%v and %v with %v", a, reduced, x)
		}
	}
}

// TestUnluckyPrimes: minors that are divisible by the first primes do not mislead.
func TestUnluckyPrimes(t *testing.T) {
	for f := range residue.Fields {
		prime := int(f.Sub(0, 1)) + 1
		if prime < 1<<62-500 {
			break
		}
		high := 1 << 31
		// the determinant of a is the prime
		a := table{row(prime/high, -(prime % high)), row(1, high)}
		if k, e := Rank(a); k != 2 || e != api.OK {
			t.Errorf("Rank with %d: %d", prime, k)
		}
		checkReduce(t, a)
		checkReduce(t, append(clone(a), row(0, 0)))
		checkSolve(t, a, row(3, 4))
		checkSolve(t, a, row(prime/high, 1))
		checkSolve(t, append(clone(a), row(0, 0)), row(prime/high, 1, 0))
		checkSolve(t, append(clone(a), row(0, 0)), row(0, 1, 2))
		checkDetInverse(t, a)
		// here a column has its leading number later modulo the prime
		b := beside(a, row(1, 5), row(2, 3))
		checkReduce(t, b)
		checkSolve(t, b, row(1, 1))
	}
}

// TestManyUnluckyPrimes: a determinant that is divisible by several of the first primes is not 0.
func TestManyUnluckyPrimes(t *testing.T) {
	det, base := big.NewInt(1), big.NewInt(1<<59)
	count := 0
	for f := range residue.Fields {
		if count++; count > 6 {
			break
		}
		det.Mul(det, new(big.Int).SetUint64(f.Sub(0, 1)+1))
		// the last row contains the digits of the determinant to the base
		n := count + 2
		a, rest, digit := make(table, n), new(big.Int).Set(det), new(big.Int)
		for i := range n - 1 {
			a[i] = zeros(n)
			a[i][i], a[i][i+1] = of(1<<59, 1), of(-1, 1)
		}
		for range n {
			rest.DivMod(rest, base, digit)
			a[n-1] = append(a[n-1], of(int(digit.Int64()), 1))
		}
		if _, _, d := exactReduce(wide(a)); d.Num().Cmp(det) != 0 {
			t.Fatalf("%v instead of %v", d, det)
		}
		checkReduce(t, a)
		checkDetInverse(t, a)
		checkSolve(t, a, row(slices.Repeat([]int{1}, n)...))
		checkReduce(t, append(clone(a), zeros(n)))
		checkSolve(t, append(clone(a), zeros(n)), row(slices.Repeat([]int{1}, n+1)...))
	}
}

// TestUnluckyFractions: so is one whose upper numbers are short, but not its lower ones.
func TestUnluckyFractions(t *testing.T) {
	det := big.NewInt(1)
	for f := range residue.Fields {
		if det.BitLen() > 62 {
			break
		}
		det.Mul(det, new(big.Int).SetUint64(f.Sub(0, 1)+1))
	}
	// the determinant is the product of two primes, divided by 2^80
	base, middle, last := big.NewInt(1<<40), new(big.Int), new(big.Int)
	first, _ := new(big.Int).DivMod(det, base, last)
	first.DivMod(first, base, middle)
	digits := row(int(first.Int64()), int(middle.Int64()), int(last.Int64()))
	a := table{{of(1, 1<<40), of(-1, 1), of(0, 1)}, {of(0, 1), of(1, 1<<40), of(-1, 1)}, digits}
	checkReduce(t, a)
	checkReduce(t, append(clone(a), zeros(3)))
	checkDetInverse(t, a)
	checkSolve(t, a, row(1, 2, 3))
}

// TestLimits: matrices of the greatest size with long numbers on the way to short results.
func TestLimits(t *testing.T) {
	r := rand.New(rand.NewSource(8))
	const n = api.MaxCells
	a, x := make(table, n), zeros(n)
	for i := range a {
		x[i] = reduced(r.Intn(21)-10, r.Intn(6)+1)
		for range n {
			a[i] = append(a[i], of(r.Intn(1<<50)-1<<49, 1))
		}
	}
	b, e := Apply(a, x)
	if e != api.OK {
		t.Fatal(e)
	}
	expectSolve(t, a, b, 1, x, api.OK)
	expectSolve(t, a, row(slices.Repeat([]int{1}, n)...), 0, nil, api.ErrFull)
	d, e := Det(a)
	expectOne(t, d, e, api.Num{}, api.ErrFull, "Det")
	got, e := Inverse(a)
	expect(t, got, e, nil, api.ErrFull, "Inverse")
	got, e = Reduce(a)
	expect(t, got, e, unit(n), api.OK, "Reduce")
	got, e = Power(a, 1000)
	expect(t, got, e, nil, api.ErrFull, "Power")
	a[n-1] = slices.Clone(a[0])
	if k, e := Rank(a); k != n-1 || e != api.OK {
		t.Errorf("Rank: %d %d", k, e)
	}
	got, e = Inverse(a)
	expect(t, got, e, nil, api.ErrNone, "Inverse")
	d, e = Det(a)
	expectOne(t, d, e, of(0, 1), api.OK, "Det")
	b[n-1] = b[0]
	x[n-1] = of(0, 1)
	b, _ = Apply(a, x)
	expectSolve(t, a, b, 2, x, api.OK)
	b[n-1].Top++
	if b[n-1] = reduced(b[n-1].Top, b[n-1].Low); b[n-1] != b[0] {
		expectSolve(t, a, b, 0, nil, api.OK)
	}
}

// TestArguments: arguments remain as they are, and results are new and share no memory.
func TestArguments(t *testing.T) {
	a, b, x := table{row(2, 1), row(0, 3)}, unit(2), row(5, 6)
	before := clone(a)
	results := []table{}
	for _, call := range []func() (table, api.Errno){
		func() (table, api.Errno) { return Mul(a, b) },
		func() (table, api.Errno) { return Mul(b, a) },
		func() (table, api.Errno) { return Power(a, 0) },
		func() (table, api.Errno) { return Power(a, 1) },
		func() (table, api.Errno) { return Reduce(a) },
		func() (table, api.Errno) { return Reduce(b) },
		func() (table, api.Errno) { return Inverse(a) },
		func() (table, api.Errno) { out, e := Apply(a, x); return table{out}, e },
		func() (table, api.Errno) { _, out, e := Solve(b, x); return table{out}, e },
	} {
		first, e := call()
		second, e2 := call()
		if e != api.OK || e2 != api.OK || !isEqual(first, second) {
			t.Errorf("%v %v", first, second)
		}
		results = append(results, first, second)
	}
	kept := []table{}
	for _, result := range results {
		kept = append(kept, clone(result))
	}
	for i, result := range results {
		for _, row := range result {
			for j := range row {
				row[j] = of(100+i, 1)
			}
			_ = append(row, of(-1, 1))
		}
		for j := i + 1; j < len(results); j++ {
			if !isEqual(results[j], kept[j]) {
				t.Errorf("results %d and %d share memory", i, j)
			}
		}
	}
	if !isEqual(a, before) || !isEqual(b, unit(2)) || !slices.Equal(x, row(5, 6)) {
		t.Error("an argument was changed")
	}
}
