package probe

import (
	"slices"

	"timeweft/api"
)

// Grid says of each time at which vertices one can be.
type Grid [][]bool

// Lives says whether a vertex is there.
func Lives(g api.Graph, v, at int) bool {
	return at >= g.Lives[v].From && at <= g.Lives[v].To-1
}

// Walk tries all that one can do, one time after the other: nothing of it is what the packages that are tested go by.
func Walk(g api.Graph, from, start int) Grid {
	here := make(Grid, g.Horizon)
	for at := range here {
		here[at] = make([]bool, len(g.Lives))
	}
	here[start][from] = Lives(g, from, start)
	for at := start; at < g.Horizon; at++ {
		for v := range g.Lives {
			if here[at][v] {
				here.spread(g, v, at)
			}
		}
	}
	return here
}

// Walks are those from each vertex at each time.
func Walks(g api.Graph) [][]Grid {
	all := make([][]Grid, len(g.Lives))
	for v := range all {
		for at := range g.Horizon {
			all[v] = append(all[v], Walk(g, v, at))
		}
	}
	return all
}

// First is of each vertex the first time at which one can be there; Inf, if there is none.
func (here Grid) First(vertices int) []int {
	l := slices.Repeat([]int{api.Inf}, vertices)
	for at := len(here) - 1; at >= 0; at-- {
		for v, can := range here[at] {
			if can {
				l[v] = at
			}
		}
	}
	return l
}

// spread goes on from one vertex at one time: it waits for the next time, and takes each leg that leaves.
func (here Grid) spread(g api.Graph, v, at int) {
	come := func(w, then int) {
		if then < g.Horizon && Lives(g, w, then) {
			here[then][w] = true
		}
	}
	come(v, at+1)
	for _, e := range g.Edges {
		for _, l := range e.Legs {
			if e.A == v && l.From <= at && at < l.To {
				come(e.B, at+l.Time)
			}
		}
	}
}
