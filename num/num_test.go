package num

import (
	"dicebox/api"
	"math"
	"math/big"
	"math/rand"
	"strings"
	"testing"
)

// limit is the greatest part of a valid number.
const limit = api.MaxNum

// of returns the number top / low, which is valid as it stands.
func of(top, low int) api.Num { return api.Num{Top: top, Low: low} }

// notValid contains numbers that break each part of the definition.
func notValid() []api.Num {
	return []api.Num{{}, of(1, 0), of(1, -1), of(0, 2), of(2, 4), of(-6, 9), of(limit+1, 1), of(-limit-1, 1), of(1, limit+1),
		of(math.MinInt, 1), of(math.MaxInt, 1), of(1, math.MinInt), of(1, math.MaxInt), of(math.MinInt, math.MinInt), of(math.MinInt, 3), of(limit, limit)}
}

// someValid contains ordinary numbers and the greatest and least ones.
func someValid() []api.Num {
	return []api.Num{of(0, 1), of(1, 1), of(-1, 1), of(1, 2), of(-1, 2), of(1, 3), of(-2, 3), of(5, 12), of(7, 1), of(limit, 1), of(-limit, 1),
		of(1, limit), of(-1, limit), of(limit, limit-1), of(limit-1, limit), of(1-limit, limit), of(1<<30, 3), of(3, 1<<30), of(1<<31, 1), of(limit, 7)}
}

// sample returns a valid number of any length.
func sample(r *rand.Rand) api.Num {
	top := r.Intn(limit)>>r.Intn(61) - r.Intn(limit)>>r.Intn(61)
	low := r.Intn(limit)>>r.Intn(61) + 1
	d := int(new(big.Int).GCD(nil, nil, big.NewInt(int64(max(top, -top))), big.NewInt(int64(low))).Int64())
	return of(top/d, low/d)
}

// wide returns a as a number of the standard library, with which the tests compare.
func wide(a api.Num) *big.Rat { return big.NewRat(int64(a.Top), int64(a.Low)) }

// narrow returns what a function must return whose result is x.
func narrow(x *big.Rat) (api.Num, api.Errno) {
	bound := big.NewInt(limit)
	if x.Num().CmpAbs(bound) > 0 || x.Denom().Cmp(bound) > 0 {
		return api.Num{}, api.ErrFull
	}
	return of(int(x.Num().Int64()), int(x.Denom().Int64())), api.OK
}

// expect compares a number and an error with what they must be.
func expect(t *testing.T, got api.Num, e api.Errno, want api.Num, wantError api.Errno, call ...any) {
	t.Helper()
	if got != want || e != wantError {
		t.Errorf("%v: %v, error %d instead of %v, error %d", call, got, e, want, wantError)
	}
}

// expectRat compares a number and an error with an exact result.
func expectRat(t *testing.T, got api.Num, e api.Errno, exact *big.Rat, call ...any) {
	t.Helper()
	want, wantError := narrow(exact)
	expect(t, got, e, want, wantError, call...)
}

// P1.1
func TestValid(t *testing.T) {
	for _, a := range someValid() {
		if !Valid(a) {
			t.Errorf("%v is valid", a)
		}
	}
	for _, a := range notValid() {
		if Valid(a) {
			t.Errorf("%v is not valid", a)
		}
	}
}

// P1.2
func TestMake(t *testing.T) {
	ints := []int{0, 1, -1, 2, -4, 6, 12, 1 << 32, limit, -limit, limit + 1, 2 * limit, 4*limit - 4, math.MaxInt, math.MinInt, math.MinInt + 1}
	for _, top := range ints {
		got, e := Make(top, 0)
		expect(t, got, e, api.Num{}, api.ErrRange, "Make", top, 0)
		for _, low := range ints[1:] {
			got, e := Make(top, low)
			expectRat(t, got, e, new(big.Rat).SetFrac(big.NewInt(int64(top)), big.NewInt(int64(low))), "Make", top, low)
		}
	}
	got, e := Make(math.MinInt, math.MinInt)
	expect(t, got, e, of(1, 1), api.OK, "Make of equal numbers")
	got, e = Make(6, -4)
	expect(t, got, e, of(-3, 2), api.OK, "Make 6 -4")
}

// operation is one of the four operations, with that of the standard library.
type operation struct {
	name  string
	apply func(a, b api.Num) (api.Num, api.Errno)
	exact func(out, a, b *big.Rat) *big.Rat
}

func operations() []operation {
	return []operation{{"Add", Add, (*big.Rat).Add}, {"Sub", Sub, (*big.Rat).Sub}, {"Mul", Mul, (*big.Rat).Mul}, {"Div", Div, (*big.Rat).Quo}}
}

func checkOperation(t *testing.T, o operation, a, b api.Num) {
	t.Helper()
	got, e := o.apply(a, b)
	if o.name == "Div" && b.Top == 0 {
		expect(t, got, e, api.Num{}, api.ErrNone, o.name, a, b)
		return
	}
	expectRat(t, got, e, o.exact(new(big.Rat), wide(a), wide(b)), o.name, a, b)
}

// P1.3
func TestOperations(t *testing.T) {
	r := rand.New(rand.NewSource(1))
	for _, o := range operations() {
		for _, a := range someValid() {
			for _, b := range someValid() {
				checkOperation(t, o, a, b)
			}
		}
		for range 2000 {
			checkOperation(t, o, sample(r), sample(r))
		}
		for _, bad := range notValid() {
			for _, a := range []api.Num{of(1, 2), of(0, 1), bad} {
				got, e := o.apply(a, bad)
				expect(t, got, e, api.Num{}, api.ErrArg, o.name, a, bad)
				got, e = o.apply(bad, a)
				expect(t, got, e, api.Num{}, api.ErrArg, o.name, bad, a)
			}
		}
	}
}

func TestExamples(t *testing.T) {
	got, e := Add(of(1, 3), of(1, 6))
	expect(t, got, e, of(1, 2), api.OK, "example 1")
	got, e = Pow(of(-2, 3), 3)
	expect(t, got, e, of(-8, 27), api.OK, "example 2")
	got, e = Between(of(3, 10), of(2, 5))
	expect(t, got, e, of(1, 3), api.OK, "example 3")
	got, e = Add(of(1<<60, 1), of(1, 1))
	expect(t, got, e, api.Num{}, api.ErrFull, "example 4")
}

// P1.4
func TestCmp(t *testing.T) {
	for _, a := range someValid() {
		for _, b := range someValid() {
			if got, e := Cmp(a, b); got != wide(a).Cmp(wide(b)) || e != api.OK {
				t.Errorf("Cmp %v %v: %d %d", a, b, got, e)
			}
		}
		for _, bad := range notValid() {
			if got, e := Cmp(a, bad); got != 0 || e != api.ErrArg {
				t.Errorf("Cmp %v %v: %d %d", a, bad, got, e)
			}
			if got, e := Cmp(bad, a); got != 0 || e != api.ErrArg {
				t.Errorf("Cmp %v %v: %d %d", bad, a, got, e)
			}
		}
	}
}

// power returns a to the power of n.
func power(a api.Num, n int) *big.Rat {
	exponent := big.NewInt(int64(n))
	return new(big.Rat).SetFrac(new(big.Int).Exp(big.NewInt(int64(a.Top)), exponent, nil), new(big.Int).Exp(big.NewInt(int64(a.Low)), exponent, nil))
}

// P1.5
func TestPow(t *testing.T) {
	for _, a := range append(someValid(), of(2, 1), of(-2, 1), of(1, 4), of(-3, 1), of(3, 2)) {
		for _, n := range []int{0, 1, 2, 3, 19, 20, 30, 37, 38, 59, 60, 61, 62, 999, 10000} {
			got, e := Pow(a, n)
			expectRat(t, got, e, power(a, n), "Pow", a, n)
		}
		for _, n := range []int{-1, 10001, math.MinInt, math.MaxInt} {
			got, e := Pow(a, n)
			expect(t, got, e, api.Num{}, api.ErrRange, "Pow", a, n)
		}
	}
	for _, bad := range notValid() {
		for _, n := range []int{0, 2, -1} {
			got, e := Pow(bad, n)
			expect(t, got, e, api.Num{}, api.ErrArg, "Pow", bad, n)
		}
	}
}

// slowBetween follows the definition: it tries all lower numbers.
func slowBetween(a, b api.Num) api.Num {
	for low := int64(1); ; low++ {
		scale := new(big.Rat).SetInt64(low)
		left, right := new(big.Rat).Mul(wide(a), scale), new(big.Rat).Mul(wide(b), scale)
		first := new(big.Int).Div(new(big.Int).Add(left.Num(), new(big.Int).Sub(left.Denom(), big.NewInt(1))), left.Denom())
		last := new(big.Int).Div(right.Num(), right.Denom())
		if first.Cmp(last) > 0 {
			continue
		}
		switch {
		case first.Sign() > 0:
			return of(int(first.Int64()), int(low))
		case last.Sign() < 0:
			return of(int(last.Int64()), int(low))
		}
		return of(0, int(low))
	}
}

// P1.6
func TestBetween(t *testing.T) {
	r := rand.New(rand.NewSource(2))
	for range 3000 {
		a, _ := Make(r.Intn(400)-200, r.Intn(60)+1)
		b, _ := Make(r.Intn(400)-200, r.Intn(60)+1)
		got, e := Between(a, b)
		if order, _ := Cmp(a, b); order > 0 {
			expect(t, got, e, api.Num{}, api.ErrRange, "Between", a, b)
			got, e = Between(b, a)
			a, b = b, a
		}
		expect(t, got, e, slowBetween(a, b), api.OK, "Between", a, b)
	}
	cases := [][3]api.Num{
		{of(1, 2), of(1, 2), of(1, 2)},
		{of(limit-1, limit), of(limit-1, limit), of(limit-1, limit)},
		{of(-limit, limit-1), of(-limit, limit-1), of(-limit, limit-1)},
		{of(-limit, 1), of(limit, 1), of(0, 1)},
		{of(0, 1), of(5, 1), of(0, 1)},
		{of(-5, 1), of(0, 1), of(0, 1)},
		{of(1, limit), of(1, limit-1), of(1, limit-1)},
		{of(limit-2, limit-1), of(limit-1, limit), of(limit-2, limit-1)},
		{of(limit, limit-1), of(limit, 1), of(2, 1)},
		{of(7, 2), of(limit, 1), of(4, 1)},
		{of(-limit, 1), of(-7, 2), of(-4, 1)},
	}
	for _, c := range cases {
		got, e := Between(c[0], c[1])
		expect(t, got, e, c[2], api.OK, "Between", c[0], c[1])
	}
	for _, bad := range notValid() {
		got, e := Between(bad, of(1, 1))
		expect(t, got, e, api.Num{}, api.ErrArg, "Between", bad, 1)
		got, e = Between(of(1, 1), bad)
		expect(t, got, e, api.Num{}, api.ErrArg, "Between", 1, bad)
	}
}

// TestBetweenLong compares long numbers with the neighbours of the result: each number with a lesser
// lower number lies outside.
func TestBetweenLong(t *testing.T) {
	r := rand.New(rand.NewSource(3))
	for range 2000 {
		a, b := sample(r), sample(r)
		if wide(a).Cmp(wide(b)) > 0 {
			a, b = b, a
		}
		got, e := Between(a, b)
		if e != api.OK || !Valid(got) || wide(got).Cmp(wide(a)) < 0 || wide(got).Cmp(wide(b)) > 0 {
			t.Fatalf("Between %v %v: %v %d", a, b, got, e)
		}
		again, _ := Between(of(-b.Top, b.Low), of(-a.Top, a.Low))
		if again != of(-got.Top, got.Low) {
			t.Fatalf("Between %v %v with other signs: %v", a, b, again)
		}
		for low := 1; low < min(got.Low, 40); low++ {
			scale := big.NewRat(int64(low), 1)
			last := new(big.Rat).Mul(wide(b), scale)
			whole := new(big.Rat).SetInt(new(big.Int).Div(last.Num(), last.Denom()))
			if whole.Cmp(new(big.Rat).Mul(wide(a), scale)) >= 0 {
				t.Fatalf("Between %v %v: %v, but there is a number with %d", a, b, got, low)
			}
		}
	}
}

// P1.7
func TestDot(t *testing.T) {
	r := rand.New(rand.NewSource(4))
	for n := range 40 {
		l, m := make([]api.Num, n), make([]api.Num, n)
		sum := new(big.Rat)
		for i := range n {
			l[i], _ = Make(r.Intn(50)-25, r.Intn(12)+1)
			m[i] = sample(r)
			if n%2 == 0 {
				m[i], _ = Make(r.Intn(50)-25, r.Intn(12)+1)
			}
			sum.Add(sum, new(big.Rat).Mul(wide(l[i]), wide(m[i])))
		}
		got, e := Dot(l, m)
		expectRat(t, got, e, sum, "Dot", l, m)
	}
	got, e := Dot(nil, []api.Num{})
	expect(t, got, e, of(0, 1), api.OK, "Dot of nothing")
	got, e = Dot([]api.Num{of(1, 2)}, nil)
	expect(t, got, e, api.Num{}, api.ErrDim, "Dot of 1 and 0 numbers")
	got, e = Dot([]api.Num{of(limit, 1), of(limit, 1), of(3, 1)}, []api.Num{of(limit, 1), of(-limit, 1), of(1, 7)})
	expect(t, got, e, of(3, 7), api.OK, "Dot with a long sum on the way")
	for _, bad := range notValid() {
		got, e := Dot([]api.Num{of(1, 2), bad}, []api.Num{of(1, 2)})
		expect(t, got, e, api.Num{}, api.ErrArg, "Dot", bad)
		got, e = Dot(nil, []api.Num{of(1, 2), bad})
		expect(t, got, e, api.Num{}, api.ErrArg, "Dot", bad)
	}
}

// TestDotLong: a long list, whose sum is short.
func TestDotLong(t *testing.T) {
	const n = 100000
	l, m := make([]api.Num, n), make([]api.Num, n)
	for i := range n {
		l[i], m[i] = of(1-2*(i%2), 1), of(1, i/2+1)
	}
	got, e := Dot(l[:2000], m[:2000])
	expect(t, got, e, of(0, 1), api.OK, "Dot of 2000 numbers")
	for i := range n {
		m[i] = of(1, i%12+1)
	}
	sum := new(big.Rat)
	for i := range 12 {
		sum.Add(sum, new(big.Rat).Mul(wide(l[i]), wide(m[i])))
	}
	last := new(big.Rat)
	for i := range n % 12 {
		last.Add(last, new(big.Rat).Mul(wide(l[i]), wide(m[i])))
	}
	got, e = Dot(l, m)
	expectRat(t, got, e, last.Add(last, sum.Mul(sum, big.NewRat(n/12, 1))), "Dot of many numbers")
}

// P1.8
func TestPrint(t *testing.T) {
	cases := map[string]api.Num{"0": of(0, 1), "1": of(1, 1), "-1": of(-1, 1), "-3/2": of(-3, 2), "1/1152921504606846976": of(1, limit),
		"-1152921504606846976": of(-limit, 1), "5/12": of(5, 12)}
	for want, a := range cases {
		if got, e := Print(a); got != want || e != api.OK {
			t.Errorf("Print %v: %q %d", a, got, e)
		}
	}
	for _, bad := range notValid() {
		if got, e := Print(bad); got != "" || e != api.ErrArg {
			t.Errorf("Print %v: %q %d", bad, got, e)
		}
	}
}

// P1.8
func TestParse(t *testing.T) {
	zeros := strings.Repeat("0", 90)
	cases := map[string]api.Num{"0": of(0, 1), "-0": of(0, 1), "-0/7": of(0, 1), "000": of(0, 1), "-06/4": of(-3, 2), "007": of(7, 1), "6/003": of(2, 1),
		"1152921504606846976": of(limit, 1), "-1152921504606846976/1": of(-limit, 1), "1/1152921504606846976": of(1, limit),
		"9" + zeros + "/12" + zeros:    of(3, 4),
		strings.Repeat("0", 199) + "5": of(5, 1), "2305843009213693952/4": of(limit/2, 1)}
	for text, want := range cases {
		got, e := Parse(text)
		expect(t, got, e, want, api.OK, "Parse", text)
	}
	for _, text := range []string{"", "-", "+1", "--1", "1-", "/", "1/", "/1", "-/1", "1/0", "1/000", "0/0", "1/-2", "1/2/3", " 1", "1 ", "1\n", "1.5", "a", "1a", "0x1", "1_0",
		"\u0661", "\xff", "1e3", strings.Repeat("1", 200) + "/0", strings.Repeat("1", 300) + "x", strings.Repeat("-", 300), strings.Repeat("1/", 150)} {
		got, e := Parse(text)
		expect(t, got, e, api.Num{}, api.ErrForm, "Parse", text)
	}
	for _, text := range []string{"1152921504606846977", "-1152921504606846977", "1/1152921504606846977", strings.Repeat("9", 200), strings.Repeat("0", 200) + "1",
		strings.Repeat("0", 201), "1/" + strings.Repeat("0", 198) + "1", strings.Repeat("9", 100000), "9223372036854775808", "18446744073709551617/18446744073709551616"} {
		got, e := Parse(text)
		expect(t, got, e, api.Num{}, api.ErrFull, "Parse", text)
	}
}

// same reports whether two calls had the same exact result; if one exceeded a limit, there is nothing to compare.
func same(t *testing.T, name string, a, b api.Num, errors ...api.Errno) {
	t.Helper()
	for _, e := range errors {
		if e == api.ErrFull {
			return
		}
		if e != api.OK {
			t.Fatalf("%s: error %d", name, e)
		}
	}
	if a != b {
		t.Fatalf("%s: %v and %v", name, a, b)
	}
}

// P1.9
func TestField(t *testing.T) {
	r := rand.New(rand.NewSource(5))
	draw := func() api.Num { return of(r.Intn(2001)-1000, 1) }
	for range 1000 {
		a, e1 := Div(draw(), of(r.Intn(1000)+1, 1))
		b, e2 := Div(draw(), of(r.Intn(1000)+1, 1))
		c, e3 := Div(draw(), of(r.Intn(1000)+1, 1))
		ab, e4 := Add(a, b)
		ba, e5 := Add(b, a)
		same(t, "a + b", ab, ba, e1, e2, e3, e4, e5)
		bc, e6 := Add(b, c)
		left, e7 := Add(ab, c)
		right, e8 := Add(a, bc)
		same(t, "a + b + c", left, right, e6, e7, e8)
		product, e9 := Mul(a, b)
		other, e10 := Mul(b, a)
		same(t, "a b", product, other, e9, e10)
		times, e11 := Mul(b, c)
		left, e12 := Mul(product, c)
		right, e13 := Mul(a, times)
		same(t, "a b c", left, right, e11, e12, e13)
		left, e14 := Mul(a, bc)
		ac, e15 := Mul(a, c)
		right, e16 := Add(product, ac)
		same(t, "a (b + c)", left, right, e14, e15, e16)
		back, e17 := Sub(ab, b)
		same(t, "a + b - b", back, a, e17)
		if b.Top != 0 {
			back, e18 := Div(product, b)
			same(t, "a b / b", back, a, e18)
		}
	}
}

// P1.10
func TestPowers(t *testing.T) {
	for _, a := range []api.Num{of(0, 1), of(-1, 1), of(2, 1), of(-3, 2), of(1, 7), of(5, 12), of(limit, 1)} {
		for m := range 12 {
			for n := range 12 {
				left, e1 := Pow(a, m)
				right, e2 := Pow(a, n)
				sum, e3 := Pow(a, m+n)
				if e1 != api.OK || e2 != api.OK {
					continue
				}
				product, e4 := Mul(left, right)
				same(t, "powers", product, sum, e3, e4)
				if e3 != e4 {
					t.Errorf("errors %d and %d", e3, e4)
				}
			}
		}
	}
}

// P1.11
func TestRoundTrip(t *testing.T) {
	r := rand.New(rand.NewSource(6))
	numbers := someValid()
	for range 1000 {
		numbers = append(numbers, sample(r))
	}
	for _, a := range numbers {
		text, e := Print(a)
		got, e2 := Parse(text)
		if e != api.OK || e2 != api.OK || got != a {
			t.Errorf("%v: %q %v", a, text, got)
		}
	}
}

// TestArguments: lists that are arguments remain as they are.
func TestArguments(t *testing.T) {
	l, m := []api.Num{of(1, 2), of(2, 3)}, []api.Num{of(4, 1), of(-1, 6)}
	Dot(l, m)
	if l[0] != of(1, 2) || l[1] != of(2, 3) || m[0] != of(4, 1) || m[1] != of(-1, 6) {
		t.Error("Dot changed its arguments")
	}
}
