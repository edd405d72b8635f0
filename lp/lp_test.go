package lp

import (
	"dicebox/api"
	"math"
	"math/rand"
	"reflect"
	"slices"
	"testing"
	"time"
)

// solve calls Maximum and Check for a valid problem and returns the result if there is one.
func solve(t *testing.T, p Problem, always bool) (Result, bool) {
	t.Helper()
	before := clone(p)
	r, e := Maximum(p)
	if e == api.ErrFull && !always && reflect.DeepEqual(r, Result{}) {
		return r, false
	}
	if e != api.OK {
		t.Fatalf("%v: error %d, %v", p, e, r)
	}
	if !isAnswer(p, r) {
		t.Fatalf("%v: wrong result %v", p, r)
	}
	if ok, e := Check(p, r); !ok || e != api.OK {
		t.Fatalf("%v: Check refuses %v", p, r)
	}
	if !reflect.DeepEqual(clone(p), before) {
		t.Fatalf("%v has been changed", before)
	}
	return r, true
}

// P3.1: problems that are small because of their size
func TestSmall(t *testing.T) {
	r := rand.New(rand.NewSource(1))
	var kinds [3]int
	for i := range 20000 {
		draws := smallDraws()
		p := sample(r, r.Intn(5), r.Intn(5), draws[i%len(draws)])
		if i%3 == 0 {
			p = loosen(p)
		}
		out, _ := solve(t, p, true)
		kinds[out.Kind]++
	}
	if slices.Min(kinds[:]) < 1000 {
		t.Errorf("kinds %v", kinds)
	}
}

// P3.1: problems that are small because of their form
func TestNetworks(t *testing.T) {
	r := rand.New(rand.NewSource(2))
	var kinds [3]int
	for i := range 600 {
		p := network(r, r.Intn(41), r.Intn(40)+1, []int{1, 5, 1000}[i%3])
		if i%2 == 0 {
			p = loosen(p)
		}
		if i%4 == 0 {
			// bounds for each sum, so that most problems have an optimum
			for j := range p.Goal {
				p.Goal[j].Top = -max(p.Goal[j].Top, -p.Goal[j].Top)
			}
		}
		out, _ := solve(t, p, true)
		kinds[out.Kind]++
	}
	if slices.Min(kinds[:]) < 30 {
		t.Errorf("kinds %v", kinds)
	}
}

// longNetwork returns a network of 40 rows and columns in which each number is bounded by the one
// before, so that the value is as great as it can be.
func longNetwork() Problem {
	p := Problem{Goal: slices.Repeat(row(1000), 40), Right: slices.Repeat(row(1000), 40)}
	for i := range 40 {
		next := row(make([]int, 40)...)
		next[i].Top = 1
		if i > 0 {
			next[i-1].Top = -1
		}
		p.Rows = append(p.Rows, next)
	}
	return p
}

func TestLongNetwork(t *testing.T) {
	if r, _ := solve(t, longNetwork(), true); r.Value != of(1000*1000*40*41/2, 1) {
		t.Errorf("value %v", r.Value)
	}
}

// P3.1: numbers of any length, and more rows and columns. Problems with a few short numbers are solved
// although the promise does not ask for it.
func TestOther(t *testing.T) {
	r := rand.New(rand.NewSource(3))
	solved := 0
	for i := range 3000 {
		draws := otherDraws()
		p := sample(r, r.Intn(6), r.Intn(6), draws[i%len(draws)])
		if i%2 == 0 {
			p = loosen(p)
		}
		if _, ok := solve(t, p, i%len(draws) == 0 && len(p.Rows) < 4); ok {
			solved++
		}
	}
	if solved < 1000 {
		t.Errorf("%d solved", solved)
	}
}

// TestLarge: the greatest problems do not take long, whatever their numbers are.
func TestLarge(t *testing.T) {
	r := rand.New(rand.NewSource(4))
	for i, next := range append(smallDraws(), otherDraws()...) {
		for _, loose := range []bool{false, true} {
			p := sample(r, 40, 40, next)
			if loose {
				p = loosen(p)
			}
			start := time.Now()
			solve(t, p, false)
			if d := time.Since(start); d > 20*time.Second {
				t.Errorf("numbers %d: %v", i, d)
			}
		}
	}
}

// TestNoCycle: degenerate problems, on which careless exchanges go round in circles.
func TestNoCycle(t *testing.T) {
	beale := Problem{
		Rows:  [][]api.Num{{of(1, 4), of(-8, 1), of(-1, 1), of(9, 1)}, {of(1, 2), of(-12, 1), of(-1, 2), of(3, 1)}, {of(0, 1), of(0, 1), of(1, 1), of(0, 1)}},
		Right: row(0, 0, 1),
		Goal:  []api.Num{of(3, 4), of(-20, 1), of(1, 2), of(-6, 1)},
	}
	if r, _ := solve(t, beale, true); r.Kind != Optimal || r.Value != of(5, 4) {
		t.Errorf("%v", r)
	}
	r := rand.New(rand.NewSource(5))
	for range 300 {
		n := r.Intn(9) + 2
		p := sample(r, n, n, smallDraws()[1])
		p.Right = row(make([]int, n)...)
		if out, _ := solve(t, p, false); out.Kind == Optimal && out.Value != of(0, 1) {
			t.Errorf("%v: %v", p, out)
		}
	}
}

func TestExamples(t *testing.T) {
	r, _ := solve(t, Problem{[][]api.Num{row(1, 1), row(0, 1)}, row(4, 3), row(1, 2)}, true)
	if !reflect.DeepEqual(r, Result{Kind: Optimal, Value: of(7, 1), X: row(1, 3), Y: row(1, 1)}) {
		t.Errorf("%v", r)
	}
	if r, _ := solve(t, Problem{[][]api.Num{row(-1, 1)}, row(1), row(1, 0)}, true); r.Kind != Unbounded {
		t.Errorf("%v", r)
	}
}

// TestEmpty: problems without rows or columns.
func TestEmpty(t *testing.T) {
	cases := []struct {
		p    Problem
		want Result
	}{
		{Problem{}, Result{Kind: Optimal, Value: of(0, 1)}},
		{Problem{Goal: row(-2, 0)}, Result{Kind: Optimal, Value: of(0, 1), X: row(0, 0)}},
		{Problem{Goal: row(-2, 3)}, Result{Kind: Unbounded, X: row(0, 0), Ray: row(0, 1)}},
		{Problem{Rows: [][]api.Num{nil, {}}, Right: row(0, 1)}, Result{Kind: Optimal, Value: of(0, 1), Y: row(0, 0)}},
		{Problem{Rows: [][]api.Num{nil, {}}, Right: row(3, -1)}, Result{Kind: Infeasible, Y: row(0, 1)}},
	}
	for _, c := range cases {
		r, _ := solve(t, c.p, true)
		if r.Kind != c.want.Kind || r.Value != c.want.Value || !slices.Equal(r.X, c.want.X) || !slices.Equal(r.Y, c.want.Y) || !slices.Equal(r.Ray, c.want.Ray) {
			t.Errorf("%v: %v", c.p, r)
		}
	}
}

// TestFull: results that are not valid.
func TestFull(t *testing.T) {
	long := of(api.MaxNum, 1)
	for _, p := range []Problem{
		{[][]api.Num{row(1)}, []api.Num{long}, row(2)},
		{[][]api.Num{{of(1, api.MaxNum)}}, row(2), row(1)},
		{[][]api.Num{{of(1, api.MaxNum)}}, row(1), row(-1)},
	} {
		r, e := Maximum(p)
		if p.Goal[0].Top < 0 {
			if e != api.OK || !isAnswer(p, r) {
				t.Errorf("%v: %v %d", p, r, e)
			}
		} else if e != api.ErrFull || !reflect.DeepEqual(r, Result{}) {
			t.Errorf("%v: %v %d", p, r, e)
		}
	}
}

// TestLongFactors: a proof with short numbers, of a row that contains long ones.
func TestLongFactors(t *testing.T) {
	p := Problem{[][]api.Num{{of(1, api.MaxNum-1)}}, []api.Num{of(-1, api.MaxNum)}, row(0)}
	if r, _ := solve(t, p, true); r.Kind != Infeasible {
		t.Errorf("%v", r)
	}
}

// notValid contains problems that break each part of the definition.
func notValid() []Problem {
	many := make([][]api.Num, 41)
	for i := range many {
		many[i] = row(1)
	}
	return []Problem{
		{[][]api.Num{row(1), row(1, 2)}, row(1, 1), row(1)},
		{[][]api.Num{row(1), nil}, row(1, 1), row(1)},
		{[][]api.Num{{of(2, 4)}}, row(1), row(1)},
		{[][]api.Num{row(1)}, []api.Num{{}}, row(1)},
		{[][]api.Num{row(1)}, row(1), []api.Num{of(1, math.MinInt)}},
		{[][]api.Num{row(1)}, row(1, 1), row(1)},
		{[][]api.Num{row(1)}, nil, row(1)},
		{nil, row(1), row(1)},
		{[][]api.Num{row(1)}, row(1), row(1, 1)},
		{[][]api.Num{row(1)}, row(1), nil},
		{many, slices.Repeat(row(1), 41), row(1)},
		{nil, nil, slices.Repeat(row(1), 41)},
		{[][]api.Num{slices.Repeat(row(1), 41)}, row(1), slices.Repeat(row(1), 41)},
		{nil, nil, []api.Num{of(api.MaxNum+1, 1)}},
		{nil, nil, []api.Num{{}}},
	}
}

func TestNotValid(t *testing.T) {
	for _, p := range notValid() {
		if r, e := Maximum(p); e != api.ErrArg || !reflect.DeepEqual(r, Result{}) {
			t.Errorf("Maximum %v: %v %d", p, r, e)
		}
		for _, r := range []Result{{}, {Kind: Optimal, Value: of(0, 1), X: row(0), Y: row(0)}} {
			if ok, e := Check(p, r); ok || e != api.ErrArg {
				t.Errorf("Check %v: %t %d", p, ok, e)
			}
		}
		for _, x := range [][]api.Num{nil, row(0), row(0, 0), {{}}, slices.Repeat(row(0), 41)} {
			if ok, e := Feasible(p, x); ok || e != api.ErrArg {
				t.Errorf("Feasible %v: %t %d", p, ok, e)
			}
		}
	}
	most := sample(rand.New(rand.NewSource(7)), 40, 40, smallDraws()[0])
	if _, e := Check(most, Result{}); e != api.OK {
		t.Errorf("40 rows and columns: %d", e)
	}
}

// P3.3
func TestFeasible(t *testing.T) {
	p := Problem{[][]api.Num{row(1, 2), row(-1, 0)}, row(4, -1), row(5, 5)}
	cases := []struct {
		x    []api.Num
		want bool
		e    api.Errno
	}{
		{row(4, 0), true, api.OK}, {row(1, 1), true, api.OK}, {row(5, 0), false, api.OK}, {row(0, 1), false, api.OK}, {row(2, -1), false, api.OK},
		{[]api.Num{of(1, 1), of(3, 2)}, true, api.OK}, {[]api.Num{of(1, 1), of(api.MaxNum, api.MaxNum-1)}, true, api.OK},
		{[]api.Num{of(1, 1), of(3*1000001, 2*1000000)}, false, api.OK},
		{nil, false, api.ErrDim}, {row(1), false, api.ErrDim}, {row(1, 1, 1), false, api.ErrDim}, {slices.Repeat(row(0), 60), false, api.ErrDim},
		{[]api.Num{of(1, 1), of(2, 2)}, false, api.ErrArg}, {[]api.Num{{}}, false, api.ErrArg}, {slices.Repeat(row(0), 61), false, api.ErrArg},
	}
	for _, c := range cases {
		if ok, e := Feasible(p, c.x); ok != c.want || e != c.e {
			t.Errorf("%v: %t %d", c.x, ok, e)
		}
	}
	// the sums are far beyond the limits
	wide := Problem{[][]api.Num{{of(1, api.MaxNum), of(1, api.MaxNum-1), of(-1, 1)}}, row(0), row(0, 0, 0)}
	if ok, e := Feasible(wide, []api.Num{of(1, api.MaxNum-3), of(1, api.MaxNum-5), of(1, api.MaxNum)}); !ok || e != api.OK {
		t.Errorf("long sums: %t %d", ok, e)
	}
	if ok, e := Feasible(Problem{}, nil); !ok || e != api.OK {
		t.Errorf("empty: %t %d", ok, e)
	}
}

// changes returns results that differ from r in one part.
func changes(r Result) []Result {
	var out []Result
	for kind := range 5 {
		next := r
		next.Kind = kind - 1
		out = append(out, next)
	}
	for _, value := range []api.Num{{}, of(0, 1), of(r.Value.Top+1, 1), of(2*r.Value.Top, 2*r.Value.Low)} {
		next := r
		next.Value = value
		out = append(out, next)
	}
	for _, part := range []func(r *Result) *[]api.Num{
		func(r *Result) *[]api.Num { return &r.X }, func(r *Result) *[]api.Num { return &r.Y }, func(r *Result) *[]api.Num { return &r.Ray },
	} {
		for _, l := range variants(*part(&r)) {
			next := r
			*part(&next) = l
			out = append(out, next)
		}
	}
	return out
}

// variants returns lists that resemble l.
func variants(l []api.Num) [][]api.Num {
	out := [][]api.Num{nil, append(slices.Clone(l), of(0, 1)), make([]api.Num, len(l)), slices.Repeat(row(1), 1000)}
	for i, a := range l {
		for _, b := range []api.Num{of(a.Top+a.Low, a.Low), of(a.Top-a.Low, a.Low), of(-a.Top, a.Low), of(0, 1), of(2*a.Top, 2*a.Low), of(a.Top, -1), {}} {
			next := slices.Clone(l)
			next[i] = b
			out = append(out, next)
		}
	}
	return out
}

// P3.2
func TestCheck(t *testing.T) {
	r := rand.New(rand.NewSource(8))
	var counts [2]int
	for i := range 1500 {
		p := sample(r, r.Intn(4), r.Intn(4), smallDraws()[i%2])
		if i%3 == 0 {
			p = loosen(p)
		}
		result, _ := solve(t, p, true)
		for _, c := range changes(result) {
			want := isAnswer(p, c)
			if ok, e := Check(p, c); ok != want || e != api.OK {
				t.Fatalf("%v %v: %t %d", p, c, ok, e)
			}
			if want {
				counts[1]++
			} else {
				counts[0]++
			}
		}
	}
	if slices.Min(counts[:]) < 1000 {
		t.Errorf("%v", counts)
	}
}

// TestCheckLong: Check never returns ErrFull.
func TestCheckLong(t *testing.T) {
	r := rand.New(rand.NewSource(9))
	p := loosen(sample(r, 40, 40, otherDraws()[1]))
	x := list(r, 40, otherDraws()[1])
	for i := range x {
		x[i].Top = max(x[i].Top, -x[i].Top)
	}
	for _, c := range []Result{{Kind: Infeasible, Y: x}, {Kind: Unbounded, X: x, Ray: x}, {Kind: Optimal, Value: x[0], X: x, Y: x}} {
		if ok, e := Check(p, c); ok || e != api.OK {
			t.Errorf("%t %d", ok, e)
		}
	}
}

// P3.4, P3.5, P3.6
func TestPromises(t *testing.T) {
	r := rand.New(rand.NewSource(10))
	for i := range 2000 {
		p := sample(r, r.Intn(5), r.Intn(5), smallDraws()[i%2])
		if i%2 == 0 {
			p = loosen(p)
		}
		result, _ := solve(t, p, true)
		for range 10 {
			x := list(r, len(p.Goal), func(r *rand.Rand) api.Num { return of(max(0, r.Intn(8)-4), 1) })
			if ok, _ := Feasible(p, x); ok && (result.Kind == Infeasible || result.Kind == Optimal && sum(p.Goal, x).Cmp(wide(result.Value)) > 0) {
				t.Fatalf("%v: %v, but %v", p, result, x)
			}
		}
		for steps := range 5 {
			if x := along(result, steps*steps*100); result.Kind == Unbounded {
				if ok, _ := Feasible(p, x); !ok || steps > 0 && sum(p.Goal, x).Cmp(sum(p.Goal, result.X)) <= 0 {
					t.Fatalf("%v: %v, but not %v", p, result, x)
				}
			}
		}
	}
}

// along returns X + n * Ray.
func along(r Result, n int) []api.Num {
	var out []api.Num
	for i, a := range r.Ray {
		b := r.X[i]
		out = append(out, reduced(b.Top*a.Low+n*a.Top*b.Low, a.Low*b.Low))
	}
	return out
}

// TestEqual: equal arguments yield equal results that share no memory.
func TestEqual(t *testing.T) {
	p := longNetwork()
	first, _ := Maximum(p)
	second, _ := Maximum(clone(p))
	if !reflect.DeepEqual(first, second) {
		t.Error("different results")
	}
	for i := range first.X {
		first.X[i], first.Y[i] = api.Num{}, api.Num{}
	}
	third, _ := Maximum(p)
	if !reflect.DeepEqual(third, second) {
		t.Error("shared memory")
	}
}
