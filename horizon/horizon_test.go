package horizon

import (
	"dicebox/api"
	"dicebox/exact"
	"dicebox/residue"
	"dicebox/row"
	"math/rand"
	"slices"
	"testing"
)

// ratio returns the number top / low.
func ratio(top, low int) api.Num {
	out, _ := exact.Ratio(exact.Whole(top), exact.Whole(low)).Num()
	return out
}

// toward returns a row with this gain and these weights.
func toward(gain api.Num, parts ...row.Part) row.Row {
	return row.Row{Gain: exact.Of(gain), Parts: parts}
}

// share returns a part of a row.
func share(to, top, low int) row.Part { return row.Part{To: to, Weight: exact.Of(ratio(top, low))} }

// stay returns a row that keeps the number of s.
func stay(s int) row.Row { return toward(ratio(0, 1), share(s, 1, 1)) }

// sample returns a game in which state 0 keeps its number, without preferences. Some gains and sums of weights are other
// than 0 and 1 if plain is false.
func sample(r *rand.Rand, n int, plain bool, lows ...int) Game {
	g := Game{Rows: [][]row.Row{{stay(0)}}, First: []api.Num{ratio(1, 1)}}
	for s := 1; s < n; s++ {
		var rows []row.Row
		for range r.Intn(4) + 1 {
			low := lows[r.Intn(len(lows))]
			top := 1 + r.Intn(low-1)
			l := r.Perm(n)[:2]
			gain, factor := ratio(0, 1), ratio(1, 1)
			if !plain {
				gain, factor = ratio(r.Intn(7)-3, 1+r.Intn(3)), ratio(1+r.Intn(3), 3)
			}
			c := toward(gain, share(l[0], top, low), share(l[1], low-top, low))
			for i := range c.Parts {
				c.Parts[i].Weight = c.Parts[i].Weight.Mul(exact.Of(factor))
			}
			rows = append(rows, c)
		}
		g.Rows = append(g.Rows, rows)
		g.First = append(g.First, ratio(0, 1))
	}
	return g
}

func greater(_, sign int) bool { return sign > 0 }

func less(_, sign int) bool { return sign < 0 }

// mixed prefers greater numbers in some states, and lesser ones in others.
func mixed(s, sign int) bool { return s%2 == 0 && sign > 0 || s%2 == 1 && sign < 0 }

func directions() []func(int, int) bool { return []func(int, int) bool{greater, less, mixed} }

// naive returns the exact numbers after n steps, by the description of a game.
func (g Game) naive(n int) []exact.Rat {
	now := exact.List(g.First)
	for range n {
		next := make([]exact.Rat, len(now))
		for s, rows := range g.Rows {
			next[s] = rows[0].At(now, exact.Of(ratio(1, 1)))
			for _, r := range rows {
				if a := r.At(now, exact.Of(ratio(1, 1))); g.Prefers(s, a.Cmp(next[s])) {
					next[s] = a
				}
			}
		}
		now = next
	}
	return now
}

// narrow checks a result against exact numbers.
func narrow(t *testing.T, got []api.Num, e api.Errno, x []exact.Rat) bool {
	t.Helper()
	want, full := exact.Nums(x)
	if e != full || !slices.Equal(got, want) {
		t.Fatalf("%v %d instead of %v %d", got, e, want, full)
	}
	return e == api.OK
}

func TestRepeat(t *testing.T) {
	r := rand.New(rand.NewSource(1))
	valid := map[bool]int{}
	for i := range 600 {
		lows := []int{2, 3, 12}
		if i%2 == 0 {
			lows = []int{5, 1<<60 - 93, 1 << 60}
		}
		g := sample(r, r.Intn(5)+2, i%4 < 2, lows...)
		for _, g.Prefers = range directions() {
			n := r.Intn(40)
			x, e := g.Repeat(n)
			valid[narrow(t, x, e, g.naive(n))]++
		}
	}
	if valid[true] < 150 || valid[false] < 150 {
		t.Errorf("%v", valid)
	}
}

// TestEstimates: wherever estimates with few digits show which choices are best, they are close to the numbers,
// and the residues are right.
func TestEstimates(t *testing.T) {
	r := rand.New(rand.NewSource(2))
	seen := map[bool]int{}
	for i := range 300 {
		g := sample(r, r.Intn(4)+2, i%2 == 0, 4, 5, 1<<30)
		for _, g.Prefers = range directions() {
			n := r.Intn(12)
			want := g.naive(n)
			for _, precision := range []int{0, 1, 3, 6, 12, 24, 48} {
				e := estimates{game: g, fields: residue.Triple(), scale: powerOfTwo(precision)}
				for _, rows := range g.Rows {
					e.choices = append(e.choices, e.prepare(rows))
				}
				images, p := e.repeat(n)
				seen[len(p) == n]++
				checkImages(t, e, images, g.naive(len(p)), len(p))
				if len(p) == n {
					checkPlan(t, g, p, want)
				}
			}
		}
	}
	if seen[true] < 500 || seen[false] < 500 {
		t.Errorf("%v", seen)
	}
}

// checkPlan checks that the exact numbers after the steps of a plan are those wanted, also if it is pruned.
func checkPlan(t *testing.T, g Game, p plan, want []exact.Rat) {
	t.Helper()
	for range 2 {
		got := g.exactly(p)
		if !slices.EqualFunc(got, want, func(a, b exact.Rat) bool { return a.Cmp(b) == 0 }) {
			t.Fatalf("%v instead of %v", got, want)
		}
		g.prune(p)
	}
}

// checkImages checks images of the exact numbers after n steps.
func checkImages(t *testing.T, e estimates, images []image, want []exact.Rat, n int) {
	t.Helper()
	for s, x := range images {
		distance := want[s].Mul(exact.Ratio(e.scale, exact.Whole(1))).Sub(exact.Ratio(x.estimate, exact.Whole(1)))
		if distance.Cmp(exact.Of(ratio(n+1, 1))) > 0 || distance.Cmp(exact.Of(ratio(-n-1, 1))) < 0 {
			t.Fatalf("state %d differs by %v", s, distance)
		}
		for i, f := range e.fields {
			if f.Mul(f.Modulo(want[s].Low()), x.residues[i]) != f.Modulo(want[s].Top()) {
				t.Fatalf("state %d has other residues", s)
			}
		}
	}
}

// TestCloseNumbers: numbers that differ by less than the first estimates show.
func TestCloseNumbers(t *testing.T) {
	const low = 1 << 60
	part := func(low int) row.Row { return toward(ratio(0, 1), share(0, 1, low), share(1, low-1, low)) }
	g := Game{Rows: [][]row.Row{{stay(0)}, {stay(1)}, {part(low), part(low - 1), part(low)}}}
	g.First = []api.Num{ratio(1, 1), ratio(0, 1), ratio(0, 1)}
	for i, prefers := range directions()[:2] {
		g.Prefers = prefers
		x, e := g.Repeat(1000)
		if e != api.OK || x[2] != ratio(1, low-1+i) {
			t.Errorf("%v %d", x, e)
		}
	}
}

// TestNothingToDo: without steps, and with numbers that no step changes.
func TestNothingToDo(t *testing.T) {
	g := Game{Rows: [][]row.Row{{stay(0)}, {stay(0), stay(1)}}, First: []api.Num{ratio(1, 3), ratio(2, 7)}}
	for i, prefers := range directions()[:2] {
		g.Prefers = prefers
		x, e := g.Repeat(0)
		if e != api.OK || !slices.Equal(x, g.First) {
			t.Errorf("%v %d", x, e)
		}
		x, e = g.Repeat(1000)
		if e != api.OK || !slices.Equal(x, []api.Num{ratio(1, 3), g.First[i]}) {
			t.Errorf("%v %d", x, e)
		}
	}
}

// TestGains: numbers that grow with each step, also below 0, and such that are soon too long.
func TestGains(t *testing.T) {
	half := toward(ratio(-1, 3), share(1, 1, 2))
	g := Game{Rows: [][]row.Row{{toward(ratio(-api.MaxNum/1000, 1), share(0, 1, 1))}, {half}}, First: []api.Num{ratio(0, 1), ratio(-2, 3)}, Prefers: greater}
	x, e := g.Repeat(1000)
	if e != api.OK || !slices.Equal(x, []api.Num{ratio(-api.MaxNum/1000*1000, 1), ratio(-2, 3)}) {
		t.Errorf("%v %d", x, e)
	}
	g.First[1] = ratio(0, 1)
	if x, e := g.Repeat(1000); e != api.ErrFull || len(x) != 0 {
		t.Errorf("%v %d", x, e)
	}
	g.First[1] = ratio(-2, 3)
	g.Rows[0][0].Gain = exact.Of(ratio(api.MaxNum/500, 1))
	if x, e := g.Repeat(1000); e != api.ErrFull || len(x) != 0 {
		t.Errorf("%v %d", x, e)
	}
}

// TestShortcut: the numbers of few steps are long, but after enough of them the goal is reached surely.
func TestShortcut(t *testing.T) {
	const n = 40
	r := rand.New(rand.NewSource(5))
	g := Game{Prefers: greater}
	for s := range n {
		rows := []row.Row{toward(ratio(0, 1), share(max(s-1, 0), 1, 1))}
		for range 7 {
			c := toward(ratio(0, 1))
			for _, to := range r.Perm(n - 1)[:8] {
				c.Parts = append(c.Parts, share(to+1, 1<<50+2*r.Intn(1<<50)+1, 1<<60-1-2*r.Intn(1<<50)))
			}
			if s > 0 {
				rows = append(rows, c)
			}
		}
		g.Rows = append(g.Rows, rows)
		g.First = append(g.First, ratio(0, 1))
	}
	g.First[0] = ratio(1, 1)
	x, e := g.Repeat(100)
	if e != api.OK || slices.ContainsFunc(x, func(a api.Num) bool { return a != ratio(1, 1) }) {
		t.Errorf("%v %d", x, e)
	}
	if _, e := g.Repeat(n - 3); e != api.ErrFull {
		t.Errorf("%d", e)
	}
}

// TestPrune: numbers matter if the last ones depend on them.
func TestPrune(t *testing.T) {
	g := Game{Rows: [][]row.Row{{stay(1), stay(2)}, {stay(3)}, {stay(2)}, {stay(3), stay(0)}}}
	p := plan{{{0}, {0}, {0}, {0, 1}}, {{0, 1}, {0}, {0}, {0}}, {{1}, {0}, {0}, {0}}}
	g.prune(p)
	want := plan{{nil, nil, {0}, {0, 1}}, {nil, nil, {0}, {0}}, {{1}, {0}, {0}, {0}}}
	for i, step := range p {
		if !slices.EqualFunc(step, want[i], slices.Equal[[]int]) {
			t.Errorf("step %d: %v instead of %v", i, step, want[i])
		}
	}
}
