package horizon

import (
	"dicebox/exact"
	"dicebox/residue"
	"dicebox/row"
)

// firstPrecision is the precision of the first estimates.
const firstPrecision = 128

// image is what is known of a number: an integer that is close to a multiple of it, and its residues.
type image struct {
	estimate exact.Int
	residues [3]uint64
}

// choice is a row of a state: what results from it is the sum of gain and the numbers of its parts, each
// multiplied by its factor, divided by low.
type choice struct {
	low, gain exact.Int
	residues  [3]uint64 // those of the gain of the row
	parts     []part
}

// part is a part of a row.
type part struct {
	to       int
	factor   exact.Int
	residues [3]uint64 // those of the weight
}

// estimates computes with images. Each of their estimates differs from the number, multiplied by scale, by at
// most margin.
type estimates struct {
	game    Game
	fields  [3]residue.Field
	choices [][]choice
	scale   exact.Int
	margin  exact.Int
}

// estimate returns the plan of n steps, and whether the numbers after them are certainly not valid.
func (g Game) estimate(n int) (plan, bool) {
	e := estimates{game: g, fields: residue.Triple()}
	for _, rows := range g.Rows {
		e.choices = append(e.choices, e.prepare(rows))
	}
	for precision := firstPrecision; ; precision *= 2 {
		e.scale = powerOfTwo(precision)
		if images, p := e.repeat(n); len(p) == n {
			_, found := residue.Match(columns(images))
			return p, !found
		}
	}
}

// powerOfTwo returns 2^n.
func powerOfTwo(n int) exact.Int {
	out := exact.Whole(1)
	for ; n > 0; n-- {
		out = out.Add(out)
	}
	return out
}

// prepare returns the choices of a state.
func (e *estimates) prepare(rows []row.Row) []choice {
	out := make([]choice, len(rows))
	for i, r := range rows {
		numbers := []exact.Rat{r.Gain}
		for _, p := range r.Parts {
			numbers = append(numbers, p.Weight)
		}
		low := exact.Common(numbers)
		out[i] = choice{low: low, gain: r.Gain.Times(low), residues: e.residues(r.Gain)}
		for _, p := range r.Parts {
			out[i].parts = append(out[i].parts, part{p.To, p.Weight.Times(low), e.residues(p.Weight)})
		}
	}
	return out
}

// residues returns the residues of a number whose lower number is a product of valid ones.
func (e *estimates) residues(a exact.Rat) [3]uint64 {
	var out [3]uint64
	for i, f := range e.fields {
		out[i] = f.Mul(f.Modulo(a.Top()), f.Inverse(f.Modulo(a.Low())))
	}
	return out
}

// repeat returns the images of the numbers after n steps and the plan of these steps. The plan ends before the
// first step for which the estimates do not tell which choices are best.
func (e *estimates) repeat(n int) ([]image, plan) {
	now := make([]image, len(e.choices))
	for s, number := range e.game.First {
		estimate, _ := exact.Whole(number.Top).Mul(e.scale).Divide(exact.Whole(number.Low))
		now[s] = image{estimate, e.residues(exact.Of(number))}
	}
	var out plan
	for step := range n {
		// rounding adds at most 1 to the margin of each step
		e.margin = exact.Whole(step + 2)
		next, chosen := make([]image, len(now)), make([][]int, len(now))
		for s, choices := range e.choices {
			next[s], chosen[s] = e.best(s, now, choices)
			if len(chosen[s]) == 0 {
				return now, out
			}
		}
		now, out = next, append(out, chosen)
	}
	return now, out
}

// best returns the image of the best number that results from a choice of state s, and the choices from which it may
// result, or none if it is not known. Two numbers whose estimates are too close may be different or
// equal; but if their residues are equal, those of the best one are known, and its estimate has the
// same margin whichever it is.
func (e *estimates) best(s int, x []image, choices []choice) (image, []int) {
	images := make([]image, len(choices))
	best := 0
	for i, c := range choices {
		images[i] = e.at(x, c)
		if e.game.Prefers(s, images[i].estimate.Cmp(images[best].estimate)) {
			best = i
		}
	}
	var candidates []int
	reach := e.margin.Add(e.margin)
	for i, other := range images {
		if other.estimate.Sub(images[best].estimate).Abs().Cmp(reach) > 0 {
			continue
		}
		if other.residues != images[best].residues {
			return image{}, nil
		}
		candidates = append(candidates, i)
	}
	return images[best], candidates
}

// at returns the image of what results from a choice.
func (e *estimates) at(x []image, c choice) image {
	out := image{c.gain.Mul(e.scale), c.residues}
	for _, p := range c.parts {
		out.estimate = out.estimate.Add(p.factor.Mul(x[p.to].estimate))
		for i, f := range e.fields {
			out.residues[i] = f.Add(out.residues[i], f.Mul(p.residues[i], x[p.to].residues[i]))
		}
	}
	out.estimate, _ = out.estimate.Divide(c.low)
	return out
}

// columns returns the residues of all images, one list for each field.
func columns(images []image) [3][]uint64 {
	var out [3][]uint64
	for _, x := range images {
		for i, r := range x.residues {
			out[i] = append(out[i], r)
		}
	}
	return out
}
