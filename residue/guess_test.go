package residue

import (
	"dicebox/api"
	"dicebox/exact"
	"math/rand"
	"slices"
	"testing"
)

// residues returns a function that returns the residues of integers divided by others.
func residues(tops, lows []exact.Int) func(f Field) []uint64 {
	return func(f Field) []uint64 {
		var out []uint64
		for i, top := range tops {
			out = append(out, f.Mul(f.Modulo(top), f.Inverse(f.Modulo(lows[i]))))
		}
		return out
	}
}

func TestGuess(t *testing.T) {
	r := rand.New(rand.NewSource(1))
	for range 200 {
		var want []api.Num
		var tops, lows []exact.Int
		for range r.Intn(4) {
			top, low := exact.Whole(r.Intn(2*api.MaxNum)-api.MaxNum), exact.Whole(r.Intn(api.MaxNum)+1)
			number, _ := exact.Ratio(top, low).Num()
			want = append(want, number)
			tops, lows = append(tops, top), append(lows, low)
		}
		got, found := Guess(residues(tops, lows))
		if !found || !slices.Equal(got, want) {
			t.Fatalf("%v %t instead of %v", got, found, want)
		}
	}
}

func TestGuessNothing(t *testing.T) {
	over, one := exact.Whole(api.MaxNum+1), exact.Whole(1)
	firstTwo := firstFields(2)
	// 1 plus a multiple of the first two primes has their residues of 1
	likeOne := firstTwo[0].Prime().Mul(firstTwo[1].Prime()).Add(one)
	for _, pair := range [][2]exact.Int{{over, one}, {over.Neg(), one}, {one, over}, {likeOne, one}, {one, likeOne}} {
		l, found := Guess(residues([]exact.Int{one, pair[0]}, []exact.Int{one, pair[1]}))
		if found || l != nil {
			t.Errorf("%v: %v", pair, l)
		}
	}
}

func TestModulo(t *testing.T) {
	for _, f := range firstFields(2) {
		for _, n := range []int{0, 1, 5, api.MaxNum} {
			want := f.Of(api.Num{Top: n, Low: 1})
			long := f.Prime().Mul(exact.Whole(7))
			for _, a := range []exact.Int{exact.Whole(n), exact.Whole(n).Add(long), exact.Whole(n).Sub(long)} {
				if got := f.Modulo(a); got != want {
					t.Errorf("%v: %d instead of %d", a, got, want)
				}
			}
		}
	}
}
