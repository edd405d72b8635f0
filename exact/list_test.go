package exact

import (
	"dicebox/api"
	"math/big"
	"math/rand"
	"slices"
	"testing"
)

func TestLists(t *testing.T) {
	numbers := []api.Num{{Top: 0, Low: 1}, {Top: -3, Low: 7}, {Top: -api.MaxNum, Low: 1}, {Top: 1, Low: api.MaxNum}}
	l := List(numbers)
	for i, a := range l {
		checkRat(t, "List", a, big.NewRat(int64(numbers[i].Top), int64(numbers[i].Low)))
	}
	if got, e := Nums(l); e != api.OK || !slices.Equal(got, numbers) {
		t.Errorf("%v %d", got, e)
	}
	for i := range l {
		m := slices.Clone(l)
		m[i] = Ratio(Whole(1), Whole(api.MaxNum+1))
		if got, e := Nums(m); e != api.ErrFull || got != nil {
			t.Errorf("%v %d", got, e)
		}
	}
	if got, e := Nums(List(nil)); e != api.OK || len(got) != 0 {
		t.Errorf("%v %d", got, e)
	}
}

func TestCommon(t *testing.T) {
	r := rand.New(rand.NewSource(5))
	for range 1000 {
		l := make([]Rat, r.Intn(4))
		want := big.NewInt(1)
		for i := range l {
			l[i] = ratio(r)
			low := wideRat(l[i]).Denom()
			want.Mul(want, new(big.Int).Div(low, new(big.Int).GCD(nil, nil, want, low)))
		}
		low := Common(l)
		checkInt(t, "Common", low, want)
		for _, a := range l {
			product := new(big.Rat).Mul(wideRat(a), new(big.Rat).SetInt(want))
			checkInt(t, "Times", a.Times(low), product.Num())
		}
	}
}

func TestScaled(t *testing.T) {
	l := []Rat{Ratio(Whole(1), Whole(6)), Ratio(Whole(-3), Whole(4)), {}}
	whole, scale := Scaled(l)
	checkRat(t, "Scaled", scale, big.NewRat(12, 1))
	for i, want := range []int64{2, -9, 0} {
		checkRat(t, "Scaled", whole[i], big.NewRat(want, 1))
	}
	whole, scale = Scaled(nil)
	checkRat(t, "Scaled", scale, big.NewRat(1, 1))
	if len(whole) != 0 {
		t.Errorf("%v", whole)
	}
}
