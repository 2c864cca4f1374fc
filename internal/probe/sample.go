package probe

import (
	"math"
	"slices"

	"timeweft/api"
)

// Town has vertices that come later and go earlier than others, legs at times at which one of their ends, or both, aren't there, legs that touch and legs with a gap, one that comes behind the horizon, an edge without legs, a loop, and two edges between the same vertices; who waits pays less here, and more there.
func Town() api.Graph {
	return Living(10, []api.Ivl{Span(0, 10), Span(2, 8), Span(0, 9), Span(5, 10)},
		Edge(0, 1, Leg(0, 3, 2, 5), Leg(3, 6, 1, 1), Leg(7, 10, 50, 1000)),
		Edge(1, 2, Leg(1, 9, 1, 2)),
		Edge(0, 2, Leg(0, 10, 1, 4)),
		Edge(2, 2, Leg(0, 9, 3, 0)),
		Edge(2, 3),
		Edge(3, 2, Leg(0, 6, 1, 6), Leg(6, 7, 1, 1)),
		Edge(2, 0, Leg(4, 6, 1, 0)),
		Edge(0, 1, Leg(5, 9, 2, 3)))
}

// Chain has as many vertices as there may be, each with an edge to the next one; backward the edges stand in the list against their way.
func Chain(backward bool) api.Graph {
	g := EverAlive(api.MaxHorizon, api.MaxVertices)
	for v := range api.MaxVertices - 1 {
		g.Edges = append(g.Edges, Edge(v, v+1, Leg(0, api.MaxHorizon, 7, api.MaxCost)))
	}
	if backward {
		slices.Reverse(g.Edges)
	}
	return g
}

// Ring has as many edges and legs as there may be, all of them from a vertex to the next one and back to the first.
func Ring() api.Graph {
	g := EverAlive(api.MaxHorizon, api.MaxVertices)
	for i := range api.MaxEdges {
		a := i % api.MaxVertices
		e := Edge(a, (a+1)%api.MaxVertices)
		for l := range api.MaxLegs {
			from := l*16 + i%5
			e.Legs = append(e.Legs, Leg(from, from+4+i%9, 1+(i+l)%3, (i*7+l*5)%40))
		}
		g.Edges = append(g.Edges, e)
	}
	return g
}

// Free has rides to and fro, and round, that cost nothing.
func Free() api.Graph {
	ever := Leg(0, 12, 1, 0)
	return EverAlive(12, 3, Edge(0, 1, ever), Edge(1, 0, ever), Edge(1, 1, ever), Edge(1, 2, Leg(9, 11, 1, 0)), Edge(0, 0, Leg(2, 9, 2, 0)))
}

// RightGraphs are some of which graph.Check tells OK, the least and the greatest included.
func RightGraphs() []api.Graph {
	return []api.Graph{
		{Horizon: 1},
		{Horizon: api.MaxHorizon, Lives: []api.Ivl{}, Edges: []api.Edge{}},
		EverAlive(1, 1), EverAlive(1, 1, Edge(0, 0, Leg(0, 1, 1, 0))), EverAlive(5, api.MaxVertices),
		Living(3, []api.Ivl{Span(0, 1), Span(1, 3)}, Edge(0, 1, Leg(0, 3, 1, 1))),
		Town(), Chain(false), Chain(true), Ring(), Free(),
	}
}

// WrongGraphs has one graph for each error of graph.Check, and some more.
func WrongGraphs() []api.Graph {
	change := func(do func(g *api.Graph)) api.Graph {
		g := Town()
		do(&g)
		return g
	}
	return []api.Graph{
		{},
		change(func(g *api.Graph) { g.Horizon = api.MaxHorizon + 1 }),
		change(func(g *api.Graph) { g.Lives = slices.Repeat(g.Lives, 4) }),
		change(func(g *api.Graph) { g.Edges = slices.Repeat(g.Edges, 4) }),
		change(func(g *api.Graph) { g.Lives[3].To = 11 }),
		change(func(g *api.Graph) { g.Edges[7].A = 4 }),
		change(func(g *api.Graph) { g.Edges[7].B = -1 }),
		change(func(g *api.Graph) { g.Edges[7].Legs = slices.Repeat(g.Edges[7].Legs, api.MaxLegs+1) }),
		change(func(g *api.Graph) { g.Edges[7].Legs[0].Cost = -1 }),
		change(func(g *api.Graph) { g.Edges[0].Legs[1].From = 2 }),
	}
}

// WrongVertices are no numbers of vertices.
func WrongVertices(g api.Graph) []int {
	n := len(g.Lives)
	return []int{math.MinInt, -1, n, n + 1, math.MaxInt}
}

// WrongTimes are no times of a graph.
func WrongTimes(g api.Graph) []int {
	return []int{math.MinInt, -1, g.Horizon, g.Horizon + 1, math.MaxInt}
}

// Wild numbers, and some that aren't.
func Wild() []int {
	return []int{math.MinInt, math.MinInt + 1, -1, 0, 1, 2, 3, 1001, 1 << 32, math.MaxInt - 1, math.MaxInt}
}
