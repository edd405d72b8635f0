package ends

import (
	"cmp"
	"dicebox/api"
	"slices"
)

// search splits a set of states until its parts are the states of end components.
type search struct {
	m     api.Model
	sets  [][]int // the sets to be examined: disjoint parts of one array
	found []End
}

// examine takes a set for the states of a maximal end component, or pushes the parts that contain the
// end components in it. An end component lies within the states from which one can stay in the set, and
// within one of their components.
func (c *search) examine(set []int) {
	if len(set) == 0 {
		return
	}
	if kept := stay(c.m, set); len(kept) < len(set) {
		c.push(set, kept)
		return
	}
	end := End{set, make([][]int, len(set))}
	for i, s := range set {
		end.Choices[i] = staying(c.m.States[s], set)
	}
	if split := parts(c.m, end); len(split) > 1 {
		c.push(set, split...)
		return
	}
	end.States = make([]int, len(set)) // results are not to lie in one array
	copy(end.States, set)
	c.found = append(c.found, end)
}

// push lays parts of a set, which is not needed any more, one after another into its place. The capacity
// of each part ends where the next one begins.
func (c *search) push(set []int, parts ...[]int) {
	at := 0
	for _, part := range parts {
		end := at + copy(set[at:], part)
		c.sets = append(c.sets, set[at:end:end])
		at = end
	}
}

// Inside returns the maximal ones among the end components all of whose states belong to l, ordered by
// their least states. It returns ErrArg if m or l is not valid.
func Inside(m api.Model, l []int) ([]End, api.Errno) {
	if e := check(m, l); e != api.OK {
		return nil, e
	}
	c := search{m: m, sets: [][]int{slices.Clone(l)}}
	for len(c.sets) > 0 {
		last := len(c.sets) - 1
		set := c.sets[last]
		c.sets = c.sets[:last]
		c.examine(set)
	}
	slices.SortFunc(c.found, func(a, b End) int { return cmp.Compare(a.States[0], b.States[0]) })
	return c.found, api.OK
}
