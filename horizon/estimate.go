package horizon

import (
	"dicebox/api"
	"dicebox/exact"
	"dicebox/residue"
)

// firstPrecision is the precision of the first estimates.
const firstPrecision = 128

// image is what is known of a number: an integer that is close to a multiple of it, and its residues.
type image struct {
	estimate exact.Int
	residues [3]uint64
}

// choice is a choice with the means by it: the sum of the numbers of its parts, each multiplied by its
// factor, divided by low.
type choice struct {
	low   exact.Int
	parts []part
}

// part is a branch of a choice.
type part struct {
	to       int
	factor   exact.Int
	residues [3]uint64 // those of the chance
}

// estimates computes with images. Each of their estimates differs from the number, multiplied by scale, by at
// most margin.
type estimates struct {
	game    game
	fields  [3]residue.Field
	choices [][]choice
	scale   exact.Int
	margin  exact.Int
}

// refused reports whether the numbers after n steps are certainly not valid.
func (g game) refused(n int) bool {
	e := estimates{game: g, fields: residue.Triple()}
	for _, state := range g.states {
		e.choices = append(e.choices, e.prepare(state.Choices))
	}
	for precision := firstPrecision; ; precision *= 2 {
		e.scale = powerOfTwo(precision)
		if images, decided := e.repeat(n); decided {
			_, found := residue.Match(columns(images))
			return !found
		}
	}
}

// powerOfTwo returns 2^n.
func powerOfTwo(n int) exact.Int {
	out := exact.Whole(1)
	for ; n > 0; n-- {
		out = out.Add(out)
	}
	return out
}

// prepare returns the choices of a state.
func (e *estimates) prepare(l []api.Choice) []choice {
	out := make([]choice, len(l))
	for i, c := range l {
		chances := make([]exact.Rat, len(c.Branches))
		for j, branch := range c.Branches {
			chances[j] = exact.Of(branch.Chance)
		}
		out[i].low = exact.Common(chances)
		for j, branch := range c.Branches {
			out[i].parts = append(out[i].parts, part{branch.To, chances[j].Times(out[i].low), e.residues(branch.Chance)})
		}
	}
	return out
}

// residues returns the residues of a number.
func (e *estimates) residues(a api.Num) [3]uint64 {
	var out [3]uint64
	for i, f := range e.fields {
		out[i] = f.Of(a)
	}
	return out
}

// repeat returns the images of the numbers after n steps, and whether it was able to tell at each step which
// means are best.
func (e *estimates) repeat(n int) ([]image, bool) {
	now := make([]image, len(e.choices))
	for s, number := range e.game.first {
		estimate, _ := exact.Whole(number.Top).Mul(e.scale).Divide(exact.Whole(number.Low))
		now[s] = image{estimate, e.residues(number)}
	}
	for step := range n {
		// rounding adds at most 1 to the margin of each step
		e.margin = exact.Whole(step + 2)
		next := make([]image, len(now))
		for s, choices := range e.choices {
			best, decided := e.best(now, choices)
			if !decided {
				return nil, false
			}
			next[s] = best
		}
		now = next
	}
	return now, true
}

// best returns the image of the best mean, and whether it is known. Two means whose estimates are too close
// may be different or equal; but if their residues are equal, those of the best one are known, and its
// estimate has the same margin whichever it is.
func (e *estimates) best(x []image, choices []choice) (image, bool) {
	means := make([]image, len(choices))
	best := 0
	for i, c := range choices {
		means[i] = e.mean(x, c)
		if e.game.prefers(means[i].estimate.Cmp(means[best].estimate)) {
			best = i
		}
	}
	reach := e.margin.Add(e.margin)
	for _, mean := range means {
		distance := mean.estimate.Sub(means[best].estimate).Abs()
		if distance.Cmp(reach) <= 0 && mean.residues != means[best].residues {
			return image{}, false
		}
	}
	return means[best], true
}

// mean returns the image of the mean by a choice.
func (e *estimates) mean(x []image, c choice) image {
	var out image
	for _, p := range c.parts {
		out.estimate = out.estimate.Add(p.factor.Mul(x[p.to].estimate))
		for i, f := range e.fields {
			out.residues[i] = f.Add(out.residues[i], f.Mul(p.residues[i], x[p.to].residues[i]))
		}
	}
	out.estimate, _ = out.estimate.Divide(c.low)
	return out
}

// columns returns the residues of all images, one list for each field.
func columns(images []image) [3][]uint64 {
	var out [3][]uint64
	for _, x := range images {
		for i, r := range x.residues {
			out[i] = append(out[i], r)
		}
	}
	return out
}
