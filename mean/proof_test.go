package mean

import (
	"dicebox/api"
	"math"
	"math/rand"
	"slices"
	"testing"
)

// clone returns a proof that shares no memory with p.
func (p Proof) clone() Proof {
	return Proof{slices.Clone(p.Value), slices.Clone(p.Bias), slices.Clone(p.Pick)}
}

// isEqual reports whether two proofs are equal.
func (p Proof) isEqual(q Proof) bool {
	return slices.Equal(p.Value, q.Value) && slices.Equal(p.Bias, q.Bias) && slices.Equal(p.Pick, q.Pick)
}

// variants returns proofs that resemble p.
func variants(r *rand.Rand, p Proof) []Proof {
	var out []Proof
	add := func(change func(q *Proof)) {
		q := p.clone()
		change(&q)
		out = append(out, q)
	}
	i := r.Intn(len(p.Pick))
	numbers := func(a api.Num) []api.Num {
		return []api.Num{{Top: a.Top + a.Low, Low: a.Low}, {Top: a.Top - a.Low, Low: a.Low}, {Top: -a.Top, Low: a.Low}, {Top: 2 * a.Top, Low: 2 * a.Low},
			{Top: -a.Top, Low: -a.Low}, {}, number(0), number(api.MaxNum), {Top: math.MaxInt, Low: 1}, {Top: math.MinInt, Low: 1}, {Top: 1, Low: math.MinInt}}
	}
	for _, a := range numbers(p.Value[i]) {
		add(func(q *Proof) { q.Value[i] = a })
	}
	for _, a := range numbers(p.Bias[i]) {
		add(func(q *Proof) { q.Bias[i] = a })
	}
	for _, c := range []int{-1, 0, 1, 2, 3, math.MaxInt, math.MinInt} {
		add(func(q *Proof) { q.Pick[i] = c })
	}
	add(func(q *Proof) { q.Value = q.Value[1:] })
	add(func(q *Proof) { q.Bias = append(q.Bias, number(0)) })
	add(func(q *Proof) { q.Bias = nil })
	add(func(q *Proof) { q.Pick = append(q.Pick, 0) })
	add(func(q *Proof) { q.Pick = nil })
	add(func(q *Proof) { *q = Proof{} })
	add(func(q *Proof) { q.Value = slices.Repeat([]api.Num{number(0)}, 1<<16) })
	// biases may grow by the same number, or by the values
	for s := range p.Bias {
		if a := p.Bias[s]; max(a.Top, -a.Top) < 1<<59 && a.Low < 1<<50 {
			p.Bias[s].Top += 3 * a.Low
		}
	}
	return append(out, p)
}

// P13.4, P13.8, P5: Check accepts what the document calls a proof, and nothing else; then the values and the choices
// are right.
func TestCheck(t *testing.T) {
	valid := map[bool]int{}
	samples(1600, func(r *rand.Rand, m api.Model) {
		for _, max := range both() {
			p, e := Prove(m, max)
			if e != api.OK {
				continue
			}
			values := valuesOf(m, max)
			for _, q := range variants(r, p.clone()) {
				want := isProof(m, max, q)
				is, e := Check(m, max, q)
				valid[is]++
				if is != want || e != api.OK {
					t.Fatalf("%v %v: %v %d", m, q, is, e)
				}
				if !is {
					continue
				}
				compare(t, "a proof", q.Value, api.OK, values)
				for i, a := range averagesOf(m, q.Pick) {
					if a.Cmp(values[i]) != 0 {
						t.Fatalf("%v: %v attains %v", m, q, a)
					}
				}
			}
		}
	})
	if valid[true] < 3000 || valid[false] < 30000 {
		t.Errorf("%v", valid)
	}
}

// P13.4: sums of numbers near the limits are compared exactly
func TestCheckLong(t *testing.T) {
	const low = 1<<60 - 93
	long := ratio(1, low)
	m := api.Model{States: []api.State{
		{Choices: []api.Choice{{Reward: long, Branches: []api.Branch{{To: 0, Chance: ratio(low-1, low)}, {To: 1, Chance: long}}}, leading(number(0), 0)}},
		{Choices: []api.Choice{leading(long, 0), leading(long, 1)}},
	}}
	p := Proof{[]api.Num{long, long}, []api.Num{long, long}, []int{0, 0}}
	if is, e := Check(m, true, p); !is || e != api.OK {
		t.Errorf("%v %d", is, e)
	}
	// a reward that is greater by less than any number could be
	m.States[1].Choices[1].Reward = ratio(1, low-1)
	if is, e := Check(m, true, p); is || e != api.OK {
		t.Errorf("%v %d", is, e)
	}
	if is, e := Check(m, false, p); is || e != api.OK {
		t.Errorf("%v %d", is, e)
	}
	m.States[0].Choices[1].Reward = long
	if is, e := Check(m, false, p); !is || e != api.OK {
		t.Errorf("%v %d", is, e)
	}
	p.Bias[1] = number(-api.MaxNum)
	if is, e := Check(m, true, p); is || e != api.OK {
		t.Errorf("%v %d", is, e)
	}
}

// proved checks that Prove finds a proof.
func proved(t *testing.T, m api.Model) {
	t.Helper()
	for _, max := range both() {
		p, e := Prove(m, max)
		if is, f := Check(m, max, p); e != api.OK || f != api.OK || !is {
			t.Fatalf("%v: %v %d %v %d", m, p, e, is, f)
		}
	}
}

// P13.3: plain models with at most six states
func TestPlainProofs(t *testing.T) {
	r := rand.New(rand.NewSource(6))
	rewards := func(r *rand.Rand) api.Num { return number([]int{-100, 100, 99, -97, 0}[r.Intn(5)]) }
	for i := range 4000 {
		// many choices are divided into twelfths of very different sizes
		m := kind{6, 1 + i%4, 6, []int{1, 2, 12}, rewards}.sample(r)
		for s, state := range m.States {
			for j := range state.Choices {
				if next := 1 + (s+j)%len(m.States); r.Intn(2) == 0 && next < len(m.States) {
					state.Choices[j].Branches = []api.Branch{{To: 0, Chance: ratio(11, 12)}, {To: next, Chance: ratio(1, 12)}}
				}
			}
		}
		proved(t, m)
	}
}

// P13.3: models whose choices have one branch
func TestCycleProofs(t *testing.T) {
	r := rand.New(rand.NewSource(7))
	for i := range 60 {
		n := api.MaxStates - i%3
		rewards := func() api.Num { return number(r.Intn(2001) - 1000) }
		if i%5 == 0 {
			rewards = func() api.Num { return number(2000*r.Intn(2) - 1000) }
		}
		var m api.Model
		for s := range n {
			var state api.State
			for j := range 1 + r.Intn(api.MaxChoices) {
				// to any state, nearly in a circle, or away from one of several circles
				to := []int{r.Intn(n), (s + 1 + r.Intn(2)) % n, s/7*7 + (s+1)%7}[i%3]
				if j > 0 && i%3 == 2 {
					to = r.Intn(s + 1)
				}
				state.Choices = append(state.Choices, leading(rewards(), min(to, n-1)))
			}
			m.States = append(m.States, state)
		}
		proved(t, m)
	}
}

// P13.3: a value that is valid with a bias that is not
func TestLongBias(t *testing.T) {
	long := number(api.MaxNum)
	m := api.Model{States: []api.State{{Choices: []api.Choice{leading(long, 0, 1)}}, {Choices: []api.Choice{leading(number(0), 2)}}, {Choices: []api.Choice{leading(number(0), 2)}}}}
	x, s, e := Best(m, true)
	checkNumbers(t, "Best", x, e, number(0), number(0), number(0))
	if !slices.Equal(s, []int{0, 0, 0}) {
		t.Errorf("%v", s)
	}
	p, e := Prove(m, true)
	if e != api.ErrFull || !p.isEqual(Proof{}) {
		t.Errorf("%v %d", p, e)
	}
	m.States[0].Choices[0].Reward = number(api.MaxNum / 2)
	proved(t, m)
}
