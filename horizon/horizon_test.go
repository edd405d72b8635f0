package horizon

import (
	"dicebox/api"
	"dicebox/exact"
	"dicebox/residue"
	"math/rand"
	"slices"
	"testing"
)

// ratio returns the number top / low.
func ratio(top, low int) api.Num {
	out, _ := exact.Ratio(exact.Whole(top), exact.Whole(low)).Num()
	return out
}

// toward returns a choice with these chances.
func toward(branches ...api.Branch) api.Choice {
	return api.Choice{Reward: ratio(0, 1), Branches: branches}
}

// stay returns a choice that leads to s.
func stay(s int) api.Choice { return toward(api.Branch{To: s, Chance: ratio(1, 1)}) }

// sample returns a model in which state 0 is the goal, and its first numbers.
func sample(r *rand.Rand, n int, lows ...int) (api.Model, []api.Num) {
	m := api.Model{States: []api.State{{Choices: []api.Choice{stay(0)}}}}
	first := []api.Num{ratio(1, 1)}
	for s := 1; s < n; s++ {
		var state api.State
		for range r.Intn(4) + 1 {
			low := lows[r.Intn(len(lows))]
			top := 1 + r.Intn(low-1)
			l := r.Perm(n)[:2]
			slices.Sort(l)
			state.Choices = append(state.Choices, toward(api.Branch{To: l[0], Chance: ratio(top, low)}, api.Branch{To: l[1], Chance: ratio(low-top, low)}))
		}
		m.States = append(m.States, state)
		first = append(first, ratio(0, 1))
	}
	return m, first
}

func greater(sign int) bool { return sign > 0 }

func less(sign int) bool { return sign < 0 }

func directions() []func(int) bool { return []func(int) bool{greater, less} }

// narrow checks a result against exact numbers.
func narrow(t *testing.T, got []api.Num, e api.Errno, x []exact.Rat) bool {
	t.Helper()
	want, full := exact.Nums(x)
	if e != full || !slices.Equal(got, want) {
		t.Fatalf("%v %d instead of %v %d", got, e, want, full)
	}
	return e == api.OK
}

func TestRepeat(t *testing.T) {
	r := rand.New(rand.NewSource(1))
	valid := 0
	for i := range 600 {
		lows := []int{2, 3, 12}
		if i%2 == 0 {
			lows = []int{5, 1<<60 - 93, 1 << 60}
		}
		m, first := sample(r, r.Intn(5)+2, lows...)
		for _, prefers := range directions() {
			n := r.Intn(40)
			x, e := Repeat(m, first, n, prefers)
			if narrow(t, x, e, game{m.States, first, prefers}.exactly(n)) {
				valid++
			}
		}
	}
	if valid < 100 || valid > 1100 {
		t.Errorf("%d of 1200 results were valid", valid)
	}
}

// TestEstimates: wherever estimates with few digits show which means are best, they are close to the numbers,
// and the residues are right.
func TestEstimates(t *testing.T) {
	r := rand.New(rand.NewSource(2))
	seen := map[bool]int{}
	for range 300 {
		m, first := sample(r, r.Intn(4)+2, 4, 5, 1<<30)
		for _, prefers := range directions() {
			g := game{m.States, first, prefers}
			n := r.Intn(12)
			want := g.exactly(n)
			for _, precision := range []int{0, 1, 3, 6, 12, 24, 48} {
				e := estimates{game: g, fields: residue.Triple(), scale: powerOfTwo(precision)}
				for _, state := range g.states {
					e.choices = append(e.choices, e.prepare(state.Choices))
				}
				images, decided := e.repeat(n)
				seen[decided]++
				if decided {
					checkImages(t, e, images, want, n)
				}
			}
		}
	}
	if seen[true] < 500 || seen[false] < 500 {
		t.Errorf("%v", seen)
	}
}

// checkImages checks images of the exact numbers after n steps.
func checkImages(t *testing.T, e estimates, images []image, want []exact.Rat, n int) {
	t.Helper()
	for s, x := range images {
		distance := want[s].Mul(exact.Ratio(e.scale, exact.Whole(1))).Sub(exact.Ratio(x.estimate, exact.Whole(1)))
		if distance.Cmp(exact.Of(ratio(n+1, 1))) > 0 || distance.Cmp(exact.Of(ratio(-n-1, 1))) < 0 {
			t.Fatalf("state %d differs by %v", s, distance)
		}
		for i, f := range e.fields {
			if f.Mul(f.Modulo(want[s].Low()), x.residues[i]) != f.Modulo(want[s].Top()) {
				t.Fatalf("state %d has other residues", s)
			}
		}
	}
}

// TestCloseNumbers: numbers that differ by less than the first estimates show.
func TestCloseNumbers(t *testing.T) {
	const low = 1 << 60
	part := func(low int) api.Choice {
		return toward(api.Branch{To: 0, Chance: ratio(1, low)}, api.Branch{To: 1, Chance: ratio(low-1, low)})
	}
	m := api.Model{States: []api.State{{Choices: []api.Choice{stay(0)}}, {Choices: []api.Choice{stay(1)}}, {Choices: []api.Choice{part(low), part(low - 1), part(low)}}}}
	first := []api.Num{ratio(1, 1), ratio(0, 1), ratio(0, 1)}
	for i, prefers := range directions() {
		x, e := Repeat(m, first, 1000, prefers)
		if e != api.OK || x[2] != ratio(1, low-1+i) {
			t.Errorf("%v %d", x, e)
		}
	}
}

// TestNothingToDo: without steps, and with numbers that no step changes.
func TestNothingToDo(t *testing.T) {
	m := api.Model{States: []api.State{{Choices: []api.Choice{stay(0)}}, {Choices: []api.Choice{stay(0), stay(1)}}}}
	first := []api.Num{ratio(1, 3), ratio(2, 7)}
	for i, prefers := range directions() {
		x, e := Repeat(m, first, 0, prefers)
		if e != api.OK || !slices.Equal(x, first) {
			t.Errorf("%v %d", x, e)
		}
		x, e = Repeat(m, first, 1000, prefers)
		if e != api.OK || !slices.Equal(x, []api.Num{ratio(1, 3), first[i]}) {
			t.Errorf("%v %d", x, e)
		}
	}
}
