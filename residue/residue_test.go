package residue

import (
	"dicebox/api"
	"math/big"
	"math/rand"
	"testing"
)

// firstFields returns the first n fields.
func firstFields(n int) []Field {
	var out []Field
	for f := range Fields {
		out = append(out, f)
		if len(out) == n {
			break
		}
	}
	return out
}

func TestFields(t *testing.T) {
	next := uint64(1)<<(Bits+1) - 1
	for _, f := range firstFields(50) {
		for ; next > f.prime; next -= 2 {
			if new(big.Int).SetUint64(next).ProbablyPrime(20) {
				t.Fatalf("the prime %d is missing", next)
			}
		}
		if !new(big.Int).SetUint64(f.prime).ProbablyPrime(20) || f.prime <= 1<<Bits {
			t.Fatalf("%d", f.prime)
		}
		next -= 2
	}
}

func TestIsPrime(t *testing.T) {
	for n := uint64(39); n < 20000; n += 2 {
		if isPrime(n) != new(big.Int).SetUint64(n).ProbablyPrime(0) {
			t.Fatalf("%d", n)
		}
	}
	// products of two primes that pass the test for many witnesses
	for _, n := range []uint64{3215031751, 3474749660383, 341550071728321, 3825123056546413051} {
		if isPrime(n) {
			t.Errorf("%d", n)
		}
	}
}

func TestArithmetic(t *testing.T) {
	r := rand.New(rand.NewSource(1))
	for _, f := range firstFields(3) {
		p := new(big.Int).SetUint64(f.prime)
		for range 2000 {
			a, b := r.Uint64()%f.prime, r.Uint64()%f.prime
			x, y := new(big.Int).SetUint64(a), new(big.Int).SetUint64(b)
			compare(t, "Add", f.Add(a, b), x.Add(x, y), p)
			compare(t, "Sub", f.Sub(a, b), x.SetUint64(a).Sub(x, y), p)
			compare(t, "Mul", f.Mul(a, b), x.SetUint64(a).Mul(x, y), p)
			if a != 0 && f.Mul(a, f.Inverse(a)) != 1 {
				t.Fatalf("Inverse of %d", a)
			}
		}
	}
}

func compare(t *testing.T, name string, got uint64, want, p *big.Int) {
	t.Helper()
	if want.Mod(want, p); !want.IsUint64() || want.Uint64() != got {
		t.Fatalf("%s: %d instead of %v", name, got, want)
	}
}

func TestRebuild(t *testing.T) {
	fields := firstFields(3)
	numbers := []api.Num{{Top: 0, Low: 1}, {Top: 1, Low: 1}, {Top: -1, Low: 1}, {Top: -5, Low: 12}, {Top: api.MaxNum, Low: api.MaxNum - 1},
		{Top: 1 - api.MaxNum, Low: api.MaxNum}, {Top: api.MaxNum, Low: 1}, {Top: 1, Low: api.MaxNum}, {Top: -1, Low: api.MaxNum}}
	for _, a := range numbers {
		for i, f := range fields {
			for j, g := range fields {
				if i == j {
					continue
				}
				if b, found := Rebuild(f, g, f.Of(a), g.Of(a)); !found || b != a {
					t.Errorf("%v: %v %t", a, b, found)
				}
			}
		}
	}
}

func TestRebuildNothing(t *testing.T) {
	fields := firstFields(2)
	f, g := fields[0], fields[1]
	half := api.Num{Top: 1, Low: 2}
	over := func(h Field) uint64 { return h.Add(h.Of(api.Num{Top: api.MaxNum, Low: 1}), 1) }
	pairs := [][2]uint64{
		{over(f), over(g)},                       // MaxNum + 1
		{f.Inverse(over(f)), g.Inverse(over(g))}, // 1 / (MaxNum + 1)
		{f.Of(half), g.Of(api.Num{Top: 1, Low: 3})},
		{0, 1}, // a multiple of one of the primes
		{1, 0},
	}
	for _, p := range pairs {
		if a, found := Rebuild(f, g, p[0], p[1]); found || a != (api.Num{}) {
			t.Errorf("%v: %v", p, a)
		}
	}
}
