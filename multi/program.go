package multi

import (
	"dicebox/api"
	"dicebox/exact"
	"dicebox/simplex"
	"slices"
)

// program asks for lotteries that meet a demand. Their outcomes are the weighted means of those of plans, or less.
// There may be very many plans, so linear programs are solved for a few known ones, and their
// solutions show for which weights another one is to be looked for.
type program struct {
	game
	demand []exact.Rat
}

// share is a plan with the chance of following it.
type share struct {
	plan
	part exact.Rat
}

// shares returns the plans whose parts are greater than 0.
func shares(plans []plan, parts []exact.Rat) []share {
	var out []share
	for i, p := range plans {
		if parts[i].Sign() > 0 {
			out = append(out, share{p, parts[i]})
		}
	}
	return out
}

// reaches reports whether each number of an outcome is at least that of the demand.
func reaches(outcome, demand []exact.Rat) bool {
	for i, a := range outcome {
		if a.Cmp(demand[i]) < 0 {
			return false
		}
	}
	return true
}

// decide returns shares of plans that meet the demand together and true, or weights with the sum 1 that refute it.
// Each plan that it adds is worth more, for some weights, than all before, so it comes to an end.
func (p program) decide() ([]share, []exact.Rat, bool) {
	next := p.best(slices.Repeat([]exact.Rat{one()}, len(p.goals)))
	var plans []plan
	for {
		if reaches(next.outcome(), p.demand) {
			return []share{{next, one()}}, nil, true
		}
		plans = append(plans, next)
		parts, weights, met := p.separate(plans)
		if met {
			return shares(plans, parts), nil, true
		}
		next = p.best(weights, plans...)
		if next.worth(weights).Cmp(dot(weights, p.demand)) < 0 {
			return nil, weights, false
		}
	}
}

// separate returns parts with which the plans meet the demand together and true, or weights with the sum 1 for which
// all of them are worth less. Both are best: the parts for the least of all differences between outcome and
// demand, the weights for the greatest difference between the worths. The program looks for the
// weights; as differences are increased by 1, all of them are at least 0.
func (p program) separate(plans []plan) ([]exact.Rat, []exact.Rat, bool) {
	n := len(p.goals)
	minus := one().Neg()
	problem := simplex.Problem{
		Rows:  [][]exact.Rat{append(slices.Repeat([]exact.Rat{minus}, n), exact.Rat{})},
		Right: []exact.Rat{minus},
		Goal:  append(make([]exact.Rat, n), minus),
	}
	for _, q := range plans {
		var differences []exact.Rat
		for i, chance := range q.outcome() {
			differences = append(differences, chance.Sub(p.demand[i]).Add(one()))
		}
		problem.Rows = append(problem.Rows, append(differences, minus))
		problem.Right = append(problem.Right, exact.Rat{})
	}
	r, _ := simplex.Maximum(problem, 0)
	return r.Y[1:], r.X[:n], r.Value.Cmp(minus) <= 0
}

// most returns the greatest chance of ending in goal g of lotteries that meet the demand, and shares of plans
// that attain it. The given shares meet the demand. The numbers of the program are weights for the goals and a
// bound for the worths of all plans, where goal g has another weight of 1.
func (p program) most(known []share, g int) (exact.Rat, []share) {
	n := len(p.goals)
	problem := simplex.Problem{Goal: append(slices.Clone(p.demand), one().Neg())}
	var plans []plan
	add := func(q plan) {
		plans = append(plans, q)
		outcome := q.outcome()
		problem.Rows = append(problem.Rows, append(outcome, one().Neg()))
		problem.Right = append(problem.Right, outcome[g].Neg())
	}
	for _, q := range known {
		add(q.plan)
	}
	for {
		r, _ := simplex.Maximum(problem, 0)
		weights, bound := r.X[:n:n], r.X[n]
		weights[g] = weights[g].Add(one())
		next := p.best(weights, plans...)
		if next.worth(weights).Cmp(bound) <= 0 {
			return r.Value.Neg(), shares(plans, r.Y)
		}
		add(next)
	}
}

// place is a choice of a state.
type place struct {
	state, choice int
}

// lottery returns the lottery whose outcome is the weighted mean of those of some plans. It is the solution of a program
// with a row for each state and a column for each choice: the number of a column is how often the choice is
// expected to be made in a path, and in each row choices are drawn in proportion to their numbers.
func (g game) lottery(blend []share) [][]exact.Rat {
	columns := map[place]int{}
	var numbers []exact.Rat
	sums := make([]exact.Rat, len(g.rows))
	for _, q := range blend {
		for i, count := range g.visits(q.pick) {
			s := g.inside[i]
			at := place{s, q.pick[s]}
			column, known := columns[at]
			if !known {
				column = len(numbers)
				columns[at] = column
				numbers = append(numbers, exact.Rat{})
			}
			number := q.part.Mul(count)
			numbers[column] = numbers[column].Add(number)
			sums[s] = sums[s].Add(number)
		}
	}
	out := make([][]exact.Rat, len(g.rows))
	for s, rows := range g.rows {
		out[s] = make([]exact.Rat, len(rows))
		if sums[s].Sign() == 0 {
			// what is drawn where no path leads does not matter
			out[s][g.start[s]] = one()
			continue
		}
		for i := range rows {
			if column, known := columns[place{s, i}]; known {
				out[s][i] = numbers[column].Quo(sums[s])
			}
		}
	}
	return out
}

// numbersOf returns the chances of a lottery as numbers, or ErrFull if one of them is not valid.
func numbersOf(lottery [][]exact.Rat) ([][]api.Num, api.Errno) {
	out := make([][]api.Num, len(lottery))
	for s, chances := range lottery {
		numbers, e := exact.Nums(chances)
		if e != api.OK {
			return nil, e
		}
		out[s] = numbers
	}
	return out, api.OK
}
