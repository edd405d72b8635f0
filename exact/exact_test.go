package exact

import (
	"dicebox/api"
	"math"
	"math/big"
	"math/rand"
	"testing"
)

// wide returns a as an integer of the standard library, with which the tests compare.
func wide(a Int) *big.Int {
	out := new(big.Int)
	for i := len(a.magnitude) - 1; i >= 0; i-- {
		out.Lsh(out, 32)
		out.Or(out, big.NewInt(int64(a.magnitude[i])))
	}
	if a.negative {
		out.Neg(out)
	}
	return out
}

// sample returns an integer of up to n digits. Many digits are extreme ones, because the
// estimates of a division fail there first.
func sample(r *rand.Rand, n int) Int {
	out := make(digits, r.Intn(n+1))
	for i := range out {
		switch r.Intn(5) {
		case 0:
			out[i] = 0
		case 1:
			out[i] = math.MaxUint32
		case 2:
			out[i] = 1 << 31
		default:
			out[i] = r.Uint32()
		}
	}
	return signed(r.Intn(2) == 0, out.trim())
}

// isNormal reports whether a has the only representation of its value.
func isNormal(a Int) bool {
	n := len(a.magnitude)
	return n == 0 && !a.negative || n > 0 && a.magnitude[n-1] != 0
}

func checkInt(t *testing.T, name string, got Int, want *big.Int) {
	t.Helper()
	if !isNormal(got) || wide(got).Cmp(want) != 0 {
		t.Fatalf("%s: %v instead of %v", name, wide(got), want)
	}
}

func TestIntegers(t *testing.T) {
	r := rand.New(rand.NewSource(1))
	for range 20000 {
		a, b := sample(r, 8), sample(r, 8)
		x, y := wide(a), wide(b)
		checkInt(t, "Add", a.Add(b), new(big.Int).Add(x, y))
		checkInt(t, "Sub", a.Sub(b), new(big.Int).Sub(x, y))
		checkInt(t, "Mul", a.Mul(b), new(big.Int).Mul(x, y))
		checkInt(t, "Neg", a.Neg(), new(big.Int).Neg(x))
		checkInt(t, "Abs", a.Abs(), new(big.Int).Abs(x))
		if a.Cmp(b) != x.Cmp(y) || a.Cmp(a) != 0 || a.Sign() != x.Sign() || a.Bits() != x.BitLen() {
			t.Fatalf("Cmp, Sign or Bits of %v and %v", x, y)
		}
		n := uint64(r.Int63()) << r.Intn(2)
		if want := new(big.Int).Mod(x, new(big.Int).SetUint64(n)); a.Modulo(n) != want.Uint64() {
			t.Fatalf("%v modulo %d: %d", x, n, a.Modulo(n))
		}
		if b.Sign() != 0 {
			quotient, rest := a.Divide(b)
			q, m := new(big.Int).QuoRem(x, y, new(big.Int))
			checkInt(t, "quotient", quotient, q)
			checkInt(t, "rest", rest, m)
		}
	}
}

func TestDivisionNearMultiples(t *testing.T) {
	r := rand.New(rand.NewSource(2))
	for range 20000 {
		b, q := sample(r, 5), sample(r, 5)
		if b.Sign() == 0 {
			continue
		}
		a := b.Mul(q).Add(Whole(r.Intn(3) - 1))
		quotient, rest := a.Divide(b)
		x, m := new(big.Int).QuoRem(wide(a), wide(b), new(big.Int))
		checkInt(t, "quotient", quotient, x)
		checkInt(t, "rest", rest, m)
	}
}

func TestDivisor(t *testing.T) {
	r := rand.New(rand.NewSource(3))
	for range 5000 {
		common := sample(r, 6)
		a, b := sample(r, 12).Mul(common), sample(r, 12).Mul(common)
		want := new(big.Int).GCD(nil, nil, new(big.Int).Abs(wide(a)), new(big.Int).Abs(wide(b)))
		checkInt(t, "Divisor", a.Divisor(b), want)
		checkInt(t, "Divisor", a.Divisor(a), new(big.Int).Abs(wide(a)))
	}
	// neighbouring Fibonacci numbers need the most divisions
	a, b := Whole(0), Whole(1)
	for range 3000 {
		a, b = b, a.Add(b)
		if d := a.Divisor(b); d.Cmp(Whole(1)) != 0 {
			t.Fatalf("common divisor %v", wide(d))
		}
	}
}

func TestConversions(t *testing.T) {
	for _, n := range []int{0, 1, -1, math.MaxInt, math.MinInt, 1 << 32, -1 << 32, api.MaxNum} {
		checkInt(t, "Whole", Whole(n), big.NewInt(int64(n)))
		m, small := Whole(n).limited()
		if want := -api.MaxNum <= n && n <= api.MaxNum; small != want || want && m != n {
			t.Errorf("limited %d: %d %t", n, m, small)
		}
	}
	checkInt(t, "Unsigned", Unsigned(math.MaxUint64), new(big.Int).SetUint64(math.MaxUint64))
	for _, s := range []string{"0", "000", "7", "00120", "123456789012345678901234567890"} {
		want, _ := new(big.Int).SetString(s, 10)
		checkInt(t, "Decimal", Decimal(s), want)
	}
}

func TestRationals(t *testing.T) {
	r := rand.New(rand.NewSource(4))
	for range 20000 {
		a, b := ratio(r), ratio(r)
		x, y := wideRat(a), wideRat(b)
		checkRat(t, "Add", a.Add(b), new(big.Rat).Add(x, y))
		checkRat(t, "Sub", a.Sub(b), new(big.Rat).Sub(x, y))
		checkRat(t, "Sub", a.Sub(a), new(big.Rat))
		checkRat(t, "Mul", a.Mul(b), new(big.Rat).Mul(x, y))
		checkRat(t, "Neg", a.Neg(), new(big.Rat).Neg(x))
		if b.Sign() != 0 {
			checkRat(t, "Quo", a.Quo(b), new(big.Rat).Quo(x, y))
		}
		if a.Cmp(b) != x.Cmp(y) || a.Cmp(a) != 0 || a.Sign() != x.Sign() {
			t.Fatalf("Cmp or Sign of %v and %v", x, y)
		}
	}
}

// ratio returns a rational number with short or long parts; sometimes the zero value.
func ratio(r *rand.Rand) Rat {
	if r.Intn(10) == 0 {
		return Rat{}
	}
	low := Whole(r.Intn(30) + 1)
	if r.Intn(2) == 0 {
		low = sample(r, 4)
	}
	if low.Sign() == 0 {
		low = Whole(-6)
	}
	return Ratio(sample(r, 3), low)
}

func wideRat(a Rat) *big.Rat {
	return new(big.Rat).SetFrac(wide(a.Top()), wide(a.Low()))
}

// checkRat also checks that the number is in lowest terms.
func checkRat(t *testing.T, name string, got Rat, want *big.Rat) {
	t.Helper()
	checkInt(t, name, got.Top(), want.Num())
	checkInt(t, name, got.Low(), want.Denom())
}

func TestNum(t *testing.T) {
	limit, over := Whole(api.MaxNum), Whole(api.MaxNum+1)
	for _, a := range []api.Num{{Top: 0, Low: 1}, {Top: -3, Low: 7}, {Top: -api.MaxNum, Low: 1}, {Top: 1, Low: api.MaxNum}} {
		if b, e := Of(a).Num(); b != a || e != api.OK {
			t.Errorf("%v: %v %d", a, b, e)
		}
	}
	for _, a := range []Rat{Ratio(over, Whole(1)), Ratio(over.Neg(), Whole(1)), Ratio(Whole(1), over), Ratio(limit.Mul(limit), over)} {
		if b, e := a.Num(); b != (api.Num{}) || e != api.ErrFull {
			t.Errorf("%v %d", b, e)
		}
	}
	if b, e := (Rat{}).Num(); b != (api.Num{Top: 0, Low: 1}) || e != api.OK {
		t.Errorf("zero value: %v %d", b, e)
	}
}
