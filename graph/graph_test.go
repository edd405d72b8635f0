package graph

import (
	"dicebox/api"
	"dicebox/model"
	"math"
	"math/rand"
	"reflect"
	"slices"
	"testing"
)

// choice returns a choice with a reward that leads to each of the states with the same chance.
func choice(reward int, states ...int) api.Choice {
	out := api.Choice{Reward: api.Num{Top: reward, Low: 1}}
	for _, s := range states {
		out.Branches = append(out.Branches, api.Branch{To: s, Chance: api.Num{Top: 1, Low: len(states)}})
	}
	return out
}

// chain returns the chain in which each state leads to those of its list.
func chain(next ...[]int) api.Model {
	var out api.Model
	for i, l := range next {
		out.States = append(out.States, api.State{Owner: i % 2, Mark: i, Choices: []api.Choice{choice(i, l...)}})
	}
	return out
}

// dice returns a model with the graph of the game of dice of the document.
func dice() api.Model {
	out := chain([]int{1, 2}, []int{1}, []int{2})
	out.States[0].Choices = append(out.States[0].Choices, choice(0, 0, 1, 2))
	return out
}

// sample returns a valid model with n states and few edges.
func sample(r *rand.Rand, n int) api.Model {
	var out api.Model
	for i := range n {
		state := api.State{Owner: r.Intn(2), Mark: i}
		for range r.Intn(2) + 1 {
			l := r.Perm(n)[:r.Intn(min(n, 2))+1]
			slices.Sort(l)
			state.Choices = append(state.Choices, choice(r.Intn(9)-4, l...))
		}
		out.States = append(out.States, state)
	}
	return out
}

// subset returns a set of states; sometimes an empty one.
func subset(r *rand.Rand, n int) []int {
	l := r.Perm(n)[:r.Intn(min(n, 4)+1)]
	slices.Sort(l)
	return l
}

// matrix reports for each pair of states whether there is an edge.
func matrix(m api.Model) [][]bool {
	out := make([][]bool, len(m.States))
	for i, state := range m.States {
		out[i] = make([]bool, len(m.States))
		for _, c := range state.Choices {
			for _, b := range c.Branches {
				out[i][b.To] = true
			}
		}
	}
	return out
}

// lengths returns for each pair of states the length of a shortest path, or -1 (Floyd and Warshall).
func lengths(edge [][]bool) [][]int {
	n := len(edge)
	out := make([][]int, n)
	for i := range out {
		out[i] = make([]int, n)
		for j := range n {
			switch {
			case i == j:
			case edge[i][j]:
				out[i][j] = 1
			default:
				out[i][j] = -1
			}
		}
	}
	for k := range n {
		for i := range n {
			for j := range n {
				if a, b := out[i][k], out[k][j]; a >= 0 && b >= 0 && (out[i][j] < 0 || a+b < out[i][j]) {
					out[i][j] = a + b
				}
			}
		}
	}
	return out
}

// notValid contains models that are not valid.
func notValid() []api.Model {
	half := api.Num{Top: 1, Low: 2}
	edits := []func(m *api.Model){
		func(m *api.Model) { m.States = nil },
		func(m *api.Model) { m.States[0].Owner = 2 },
		func(m *api.Model) { m.States[1].Mark = 64 },
		func(m *api.Model) { m.States[2].Choices = nil },
		func(m *api.Model) { m.States[2].Choices[0].Reward = api.Num{} },
		func(m *api.Model) { m.States[1].Choices[0].Branches[0].Chance = half },
		func(m *api.Model) { m.States[1].Choices[0].Branches[0].To = 3 },
		func(m *api.Model) { m.States[1].Choices[0].Branches[0].To = -1 },
		func(m *api.Model) { m.States[0].Choices[0].Branches[0].To = 2 },
		func(m *api.Model) {
			m.States = append(m.States, slices.Repeat(m.States[1:2], api.MaxStates-2)...)
		},
	}
	var out []api.Model
	for _, edit := range edits {
		m := dice()
		edit(&m)
		out = append(out, m)
	}
	return out
}

// notSets contains lists that are no sets of states of the game of dice.
func notSets() [][]int {
	return [][]int{{3}, {-1}, {0, 0}, {1, 0}, {0, 1, 2, 3}, {math.MinInt}, {math.MaxInt}, make([]int, 1<<16)}
}

// setFunctions contains the functions of a model and a set.
func setFunctions() []func(m api.Model, l []int) (any, api.Errno) {
	return []func(m api.Model, l []int) (any, api.Errno){
		func(m api.Model, l []int) (any, api.Errno) { x, e := From(m, l); return x, e },
		func(m api.Model, l []int) (any, api.Errno) { x, e := To(m, l); return x, e },
		func(m api.Model, l []int) (any, api.Errno) { x, e := Distance(m, l); return x, e },
		func(m api.Model, l []int) (any, api.Errno) { x, e := Cut(m, l); return x, e },
	}
}

// functions contains the functions of a model.
func functions() []func(m api.Model) (any, api.Errno) {
	return []func(m api.Model) (any, api.Errno){
		func(m api.Model) (any, api.Errno) { x, e := Edges(m); return x, e },
		func(m api.Model) (any, api.Errno) { x, e := Components(m); return x, e },
		func(m api.Model) (any, api.Errno) { x, e := Bottom(m); return x, e },
		func(m api.Model) (any, api.Errno) { x, e := Period(m); return x, e },
		func(m api.Model) (any, api.Errno) { x, e := Path(m, 5, -1); return x, e },
	}
}

// isEmpty reports whether a result is what accompanies an error.
func isEmpty(x any) bool {
	if m, is := x.(api.Model); is {
		return m.States == nil
	}
	return reflect.ValueOf(x).Len() == 0
}

// TestErrArg: all functions refuse models that are not valid, and then lists that are no sets.
func TestErrArg(t *testing.T) {
	for i, m := range notValid() {
		for j, f := range functions() {
			if x, e := f(m); e != api.ErrArg || !isEmpty(x) {
				t.Errorf("model %d, function %d: %v %d", i, j, x, e)
			}
		}
		for j, f := range setFunctions() {
			for _, l := range append(notSets(), nil, []int{0}) {
				if x, e := f(m, l); e != api.ErrArg || !isEmpty(x) {
					t.Errorf("model %d, function %d: %v %d", i, j, x, e)
				}
			}
		}
	}
	for j, f := range setFunctions() {
		for _, l := range notSets() {
			if x, e := f(dice(), l); e != api.ErrArg || !isEmpty(x) {
				t.Errorf("function %d: %v %d", j, x, e)
			}
		}
	}
}

func checkEqual(t *testing.T, name string, got, want any, e api.Errno) {
	t.Helper()
	if e != api.OK || !reflect.DeepEqual(got, want) && !(isEmpty(got) && isEmpty(want)) {
		t.Fatalf("%s: %v %d instead of %v", name, got, e, want)
	}
}

// P5.4 and P5.5: the example of the document, and more
func TestExamples(t *testing.T) {
	components, e := Components(dice())
	checkEqual(t, "Components", components, [][]int{{0}, {1}, {2}}, e)
	bottom, e := Bottom(dice())
	checkEqual(t, "Bottom", bottom, [][]int{{1}, {2}}, e)
	periods, e := Period(dice())
	checkEqual(t, "Period", periods, []int{1, 1, 1}, e)

	// a cycle of 4 with a way of 2, a cycle of 3 to which it leads, and a state on no cycle
	m := chain([]int{2}, []int{6}, []int{0, 3}, []int{5}, []int{1}, []int{0, 6}, []int{7}, []int{1})
	components, e = Components(m)
	checkEqual(t, "Components", components, [][]int{{0, 2, 3, 5}, {1, 6, 7}, {4}}, e)
	bottom, e = Bottom(m)
	checkEqual(t, "Bottom", bottom, [][]int{{1, 6, 7}}, e)
	periods, e = Period(m)
	checkEqual(t, "Period", periods, []int{2, 3, 0}, e)
	times, e := Distance(m, []int{1, 7})
	checkEqual(t, "Distance", times, []int{5, 0, 4, 3, 1, 2, 1, 0}, e)
	path, e := Path(m, 0, 7)
	checkEqual(t, "Path", path, []int{0, 2, 3, 5, 6, 7}, e)
}

// P5.1
func TestEdges(t *testing.T) {
	r := rand.New(rand.NewSource(1))
	for range 300 {
		m := sample(r, r.Intn(8)+1)
		var want [][]int
		for _, row := range matrix(m) {
			var l []int
			for j, is := range row {
				if is {
					l = append(l, j)
				}
			}
			want = append(want, l)
		}
		got, e := Edges(m)
		checkEqual(t, "Edges", got, want, e)
	}
}

// P5.2, P5.3 and P5.8
func TestReached(t *testing.T) {
	r := rand.New(rand.NewSource(2))
	for range 500 {
		n := r.Intn(9) + 1
		m, l := sample(r, n), subset(r, n)
		d := lengths(matrix(m))
		var from, to []int
		times := slices.Repeat([]int{-1}, n)
		for s := range n {
			if slices.ContainsFunc(l, func(u int) bool { return d[u][s] >= 0 }) {
				from = append(from, s)
			}
			for _, u := range l {
				if d[s][u] >= 0 && (times[s] < 0 || d[s][u] < times[s]) {
					times[s] = d[s][u]
				}
			}
			if times[s] >= 0 {
				to = append(to, s)
			}
		}
		got, e := From(m, l)
		checkEqual(t, "From", got, from, e)
		got, e = To(m, l)
		checkEqual(t, "To", got, to, e)
		got, e = Distance(m, l)
		checkEqual(t, "Distance", got, times, e)
	}
}

// P5.4 and P5.9
func TestComponents(t *testing.T) {
	r := rand.New(rand.NewSource(3))
	for range 1000 {
		n := r.Intn(12) + 1
		m := sample(r, n)
		d := lengths(matrix(m))
		var components, bottom [][]int
		for s := range n {
			var l []int
			leaves := false
			for u := range n {
				if d[s][u] >= 0 && d[u][s] >= 0 {
					l = append(l, u)
				}
				leaves = leaves || d[s][u] >= 0 && d[u][s] < 0
			}
			if l[0] < s {
				continue
			}
			components = append(components, l)
			if !leaves {
				bottom = append(bottom, l)
			}
		}
		got, e := Components(m)
		checkEqual(t, "Components", got, components, e)
		got, e = Bottom(m)
		checkEqual(t, "Bottom", got, bottom, e)
		to, e := To(m, slices.Sorted(slices.Values(slices.Concat(got...))))
		if e != api.OK || len(to) != n {
			t.Fatalf("only %v lead to a bottom component", to)
		}
	}
}

// cycles returns the greatest common divisor of the lengths up to n of the paths from states of l to
// themselves; 0 if there are none. All cycles without repetitions are among them.
func cycles(edge [][]bool, l []int) int {
	out := 0
	for _, s := range l {
		at := map[int]bool{s: true}
		for length := 1; length <= len(edge); length++ {
			next := map[int]bool{}
			for u := range at {
				for _, v := range l {
					if edge[u][v] {
						next[v] = true
					}
				}
			}
			at = next
			if at[s] {
				a, b := length, out
				for b > 0 {
					a, b = b, a%b
				}
				out = a
			}
		}
	}
	return out
}

// P5.5
func TestPeriod(t *testing.T) {
	r := rand.New(rand.NewSource(4))
	seen := map[int]int{}
	for round := range 1000 {
		n := r.Intn(9) + 1
		m := sample(r, n)
		if round%2 == 0 {
			m = cyclic(r, r.Intn(5)+2, r.Intn(4)+1)
		}
		components, _ := Components(m)
		var want []int
		for _, l := range components {
			want = append(want, cycles(matrix(m), l))
			seen[want[len(want)-1]]++
		}
		got, e := Period(m)
		checkEqual(t, "Period", got, want, e)
	}
	for period := range 5 {
		if seen[period] < 10 {
			t.Errorf("%d components of the period %d", seen[period], period)
		}
	}
}

// cyclic returns a model whose edges lead from each of several groups of states to the next one.
func cyclic(r *rand.Rand, groups, size int) api.Model {
	next := make([][]int, groups*size)
	for s := range next {
		group := (s + 1) % groups
		a, b := r.Intn(size)*groups+group, r.Intn(size)*groups+group
		next[s] = []int{min(a, b)}
		if a != b {
			next[s] = append(next[s], max(a, b))
		}
	}
	return chain(next...)
}

// P5.6 and P5.10
func TestPath(t *testing.T) {
	r := rand.New(rand.NewSource(5))
	for range 300 {
		n := r.Intn(8) + 1
		m := sample(r, n)
		edge := matrix(m)
		d := lengths(edge)
		for s := range n {
			for u := range n {
				got, e := Path(m, s, u)
				if d[s][u] < 0 {
					if e != api.ErrNone || len(got) != 0 {
						t.Fatalf("%v %d", got, e)
					}
					continue
				}
				checkEqual(t, "Path", got, firstPath(edge, s, u, d[s][u]), e)
			}
		}
	}
}

// firstPath returns the first path of a length from s to u: it tries all of them.
func firstPath(edge [][]bool, s, u, length int) []int {
	if length == 0 {
		if s == u {
			return []int{s}
		}
		return nil
	}
	for next, is := range edge[s] {
		if !is {
			continue
		}
		if rest := firstPath(edge, next, u, length-1); rest != nil {
			return append([]int{s}, rest...)
		}
	}
	return nil
}

// P5.6: states that are none
func TestPathErrors(t *testing.T) {
	for _, s := range []int{-1, 3, math.MinInt, math.MaxInt} {
		for _, pair := range [][2]int{{s, 0}, {0, s}, {s, s}} {
			if l, e := Path(dice(), pair[0], pair[1]); e != api.ErrRange || len(l) != 0 {
				t.Errorf("%v: %v %d", pair, l, e)
			}
		}
	}
	if l, e := Path(dice(), 1, 2); e != api.ErrNone || len(l) != 0 {
		t.Errorf("%v %d", l, e)
	}
}

// P5.7
func TestCut(t *testing.T) {
	if m, e := Cut(dice(), nil); e != api.ErrNone || m.States != nil {
		t.Errorf("%v %d", m, e)
	}
	for _, l := range [][]int{{0}, {0, 1}, {0, 2}} {
		if m, e := Cut(dice(), l); e != api.ErrKind || m.States != nil {
			t.Errorf("%v: %v %d", l, m, e)
		}
	}
	// only the last branch of the last choice leads out
	m := chain([]int{0, 1}, []int{0}, []int{2})
	m.States[1].Choices = append(m.States[1].Choices, choice(3, 0, 1, 2))
	if m, e := Cut(m, []int{0, 1}); e != api.ErrKind || m.States != nil {
		t.Errorf("%v %d", m, e)
	}
	r := rand.New(rand.NewSource(6))
	for range 300 {
		n := r.Intn(9) + 1
		m := sample(r, n)
		l, _ := From(m, []int{r.Intn(n)})
		got, e := Cut(m, l)
		checkEqual(t, "Cut", got, renumbered(m, l), e)
		if !model.Valid(got) {
			t.Fatalf("%v", got)
		}
		whole, e := Cut(m, allStates(n))
		checkEqual(t, "Cut", whole, m, e)
	}
}

func allStates(n int) []int {
	var out []int
	for i := range n {
		out = append(out, i)
	}
	return out
}

// renumbered returns the states of l with their new numbers.
func renumbered(m api.Model, l []int) api.Model {
	var out api.Model
	for _, s := range l {
		state := m.States[s]
		state.Choices = nil
		for _, c := range m.States[s].Choices {
			copied := api.Choice{Reward: c.Reward}
			for _, b := range c.Branches {
				copied.Branches = append(copied.Branches, api.Branch{To: slices.Index(l, b.To), Chance: b.Chance})
			}
			state.Choices = append(state.Choices, copied)
		}
		out.States = append(out.States, state)
	}
	return out
}

// TestEffects: no call modifies its arguments, no result shares memory with them, and equal arguments
// yield equal results.
func TestEffects(t *testing.T) {
	r := rand.New(rand.NewSource(7))
	for range 50 {
		m := sample(r, 6)
		l, _ := From(m, []int{r.Intn(6)})
		before, _ := Cut(m, allStates(6))
		set := slices.Clone(l)
		for _, f := range functions() {
			one, _ := f(m)
			two, _ := f(m)
			if !reflect.DeepEqual(one, two) {
				t.Fatalf("%v, %v", one, two)
			}
			scribble(one)
		}
		for _, f := range setFunctions() {
			one, _ := f(m, l)
			scribble(one)
		}
		if !model.Identical(m, before) || !slices.Equal(l, set) {
			t.Fatalf("%v %v", m, l)
		}
	}
}

// scribble overwrites all that a result contains.
func scribble(x any) {
	switch x := x.(type) {
	case []int:
		clear(x)
	case [][]int:
		for _, l := range x {
			clear(l[:cap(l)])
		}
	case api.Model:
		for _, state := range x.States {
			for _, c := range state.Choices {
				clear(c.Branches[:cap(c.Branches)])
			}
			clear(state.Choices)
		}
	}
}

// TestGreatest: the greatest models.
func TestGreatest(t *testing.T) {
	next := make([][]int, api.MaxStates)
	for s := range next {
		next[s] = []int{(s + 1) % api.MaxStates}
	}
	m := chain(next...)
	components, e := Components(m)
	checkEqual(t, "Components", components, [][]int{allStates(api.MaxStates)}, e)
	periods, e := Period(m)
	checkEqual(t, "Period", periods, []int{api.MaxStates}, e)
	path, e := Path(m, 0, api.MaxStates-1)
	checkEqual(t, "Path", path, allStates(api.MaxStates), e)
}
