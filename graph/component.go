package graph

import (
	"cmp"
	"dicebox/api"
	"dicebox/model"
	"slices"
)

// visit is a state whose edges are being followed.
type visit struct {
	state int
	edge  int // position of the next edge
}

// search looks for components as Tarjan did: of the states that a depth-first search has found, those
// stay open that may share a component with a state that is still being visited.
type search struct {
	next   [][]int
	order  []int // the position of each state in order of finding, from 1; 0 if it is not found yet
	back   []int // the least position of an open state that is known to be reached from each state
	found  int   // the number of states found
	visits []visit
	open   []int
	isOpen set
	out    [][]int
}

// enter begins to visit a state.
func (c *search) enter(state int) {
	c.found++
	c.order[state] = c.found
	c.back[state] = c.found
	c.visits = append(c.visits, visit{state: state})
	c.open = append(c.open, state)
	c.isOpen[state] = true
}

// from finds the components of all states to which a path leads from root.
func (c *search) from(root int) {
	c.enter(root)
visiting:
	for len(c.visits) > 0 {
		top := &c.visits[len(c.visits)-1]
		for top.edge < len(c.next[top.state]) {
			t := c.next[top.state][top.edge]
			top.edge++
			if c.order[t] == 0 {
				c.enter(t)
				continue visiting
			}
			if c.isOpen[t] {
				c.back[top.state] = min(c.back[top.state], c.order[t])
			}
		}
		c.leave(top.state)
	}
}

// leave ends the visit of a state, the last one.
func (c *search) leave(state int) {
	c.visits = c.visits[:len(c.visits)-1]
	if c.back[state] == c.order[state] {
		c.finish(slices.Index(c.open, state))
	}
	if len(c.visits) > 0 {
		before := c.visits[len(c.visits)-1].state
		c.back[before] = min(c.back[before], c.back[state])
	}
}

// finish takes the open states from a position on as a component.
func (c *search) finish(position int) {
	component := slices.Clone(c.open[position:])
	c.open = c.open[:position]
	for _, state := range component {
		delete(c.isOpen, state)
	}
	slices.Sort(component)
	c.out = append(c.out, component)
}

// components returns all components, ordered by their least states.
func components(next [][]int) [][]int {
	n := len(next)
	c := search{next: next, order: make([]int, n), back: make([]int, n), isOpen: set{}}
	for s := range next {
		if c.order[s] == 0 {
			c.from(s)
		}
	}
	slices.SortFunc(c.out, func(a, b []int) int { return cmp.Compare(a[0], b[0]) })
	return c.out
}

// Components returns all components. It returns ErrArg if m is not valid.
func Components(m api.Model) ([][]int, api.Errno) {
	if !model.Valid(m) {
		return nil, api.ErrArg
	}
	return components(edges(m)), api.OK
}

// Bottom returns the components that no edge leaves. It returns ErrArg if m is not valid.
func Bottom(m api.Model) ([][]int, api.Errno) {
	if !model.Valid(m) {
		return nil, api.ErrArg
	}
	next := edges(m)
	leaves := func(l []int) bool {
		return len(near(distances(next, l))) > len(l)
	}
	return slices.DeleteFunc(components(next), leaves), api.OK
}

// Period returns the period of each component. It returns ErrArg if m is not valid.
func Period(m api.Model) ([]int, api.Errno) {
	if !model.Valid(m) {
		return nil, api.ErrArg
	}
	next := edges(m)
	var out []int
	for _, l := range components(next) {
		out = append(out, period(next, l))
	}
	return out, api.OK
}

// period returns the period of the component l. The length of each path from its first state to
// another one is the distance plus a sum of differences, one for each edge: how much longer the
// path to its end becomes by way of it than need be. So the period divides all differences, and
// what divides them divides the length of each cycle.
func period(next [][]int, l []int) int {
	far := distances(next, l[:1])
	out := 0
	for _, s := range l {
		for _, t := range next[s] {
			if _, inside := slices.BinarySearch(l, t); inside {
				out = divisor(out, far[s]+1-far[t])
			}
		}
	}
	return out
}

// divisor returns the greatest common divisor of two numbers of at least 0, 0 if both are 0.
func divisor(a, b int) int {
	for b > 0 {
		a, b = b, a%b
	}
	return a
}
