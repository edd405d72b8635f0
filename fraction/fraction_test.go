package fraction

import (
	"dicebox/api"
	"math/big"
	"math/rand"
	"testing"
)

// compare checks that a is the number b.
func compare(t *testing.T, name string, a Number, b *big.Rat) {
	t.Helper()
	top, low := new(big.Int).Set(b.Num()), new(big.Int).Set(b.Denom())
	// the limits of numbers do not matter: differences are compared
	for _, shift := range []int64{-1, 0, 1} {
		other := new(big.Int).Add(top, big.NewInt(shift))
		if !other.IsInt64() || !low.IsInt64() {
			t.Fatalf("%s: %v is too long for this test", name, b)
		}
		want := -int(shift)
		if got := a.Cmp(Number{Of(api.Num{Top: int(other.Int64()), Low: 1}).top, Of(api.Num{Top: int(low.Int64()), Low: 1}).top}); got != want {
			t.Fatalf("%s: %d instead of %d", name, got, want)
		}
	}
}

func TestArithmetic(t *testing.T) {
	r := rand.New(rand.NewSource(1))
	for range 1000 {
		a, b := api.Num{Top: r.Intn(1<<20) - 1<<19, Low: 1 + r.Intn(1<<10)}, api.Num{Top: r.Intn(1<<20) - 1<<19, Low: 1 + r.Intn(1<<10)}
		x, y := big.NewRat(int64(a.Top), int64(a.Low)), big.NewRat(int64(b.Top), int64(b.Low))
		compare(t, "Of", Of(a), x)
		compare(t, "Add", Of(a).Add(Of(b)), new(big.Rat).Add(x, y))
		compare(t, "Mul", Of(a).Mul(Of(b)), new(big.Rat).Mul(x, y))
		if Of(a).Cmp(Of(b)) != x.Cmp(y) {
			t.Fatalf("%v %v", a, b)
		}
	}
}

func TestMean(t *testing.T) {
	c := api.Choice{Reward: api.Num{Top: 5, Low: 1}, Branches: []api.Branch{{To: 0, Chance: api.Num{Top: 1, Low: 3}}, {To: 2, Chance: api.Num{Top: 2, Low: 3}}}}
	values := []api.Num{{Top: -3, Low: 2}, {Top: 1, Low: 1}, {Top: 7, Low: 5}}
	compare(t, "Mean", Mean(c, values), big.NewRat(13, 30))
}
