package probe

import (
	"slices"

	"timeweft/api"
)

// RoomyGraph is a copy of a graph with room behind each of its lists, in which something stands.
func RoomyGraph(g api.Graph) api.Graph {
	g.Lives = Roomy(g.Lives, api.Ivl{From: -7, To: -3})
	g.Edges = Roomy(g.Edges, api.Edge{A: -7, B: -3})
	whole := Whole(g.Edges)
	for i := range whole {
		whole[i].Legs = Roomy(whole[i].Legs, api.Leg{From: -7, To: -3, Time: 9, Cost: 9})
	}
	return g
}

// WholeGraph is a copy of a graph in which each list has what stood in the room behind it, too.
func WholeGraph(g api.Graph) api.Graph {
	g.Lives = slices.Clone(Whole(g.Lives))
	g.Edges = slices.Clone(Whole(g.Edges))
	for i := range g.Edges {
		g.Edges[i].Legs = slices.Clone(Whole(g.Edges[i].Legs))
	}
	return g
}

// CopyGraph shares nothing with its graph.
func CopyGraph(g api.Graph) api.Graph {
	g.Lives = slices.Clone(g.Lives)
	g.Edges = slices.Clone(g.Edges)
	for i := range g.Edges {
		g.Edges[i].Legs = slices.Clone(g.Edges[i].Legs)
	}
	return g
}

// SameGraph takes no list and an empty one for the same.
func SameGraph(a, b api.Graph) bool {
	return a.Horizon == b.Horizon && slices.Equal(a.Lives, b.Lives) && slices.EqualFunc(a.Edges, b.Edges, func(x, y api.Edge) bool {
		return x.A == y.A && x.B == y.B && slices.Equal(x.Legs, y.Legs)
	})
}

// SpoilGraph writes over each list of a graph, and the room behind it.
func SpoilGraph(g api.Graph) {
	for _, edge := range Whole(g.Edges) {
		Spoil(edge.Legs, api.Leg{From: 77, To: 78, Time: 79, Cost: 80})
	}
	Spoil(g.Edges, api.Edge{A: 77, B: 78})
	Spoil(g.Lives, api.Ivl{From: 77, To: 78})
}

// LegsApart writes a mark of its own over each edge's legs, and the room behind them, and says whether each mark stays: it doesn't, where two edges share memory.
func LegsApart(g api.Graph) bool {
	mark := func(i int) api.Leg { return api.Leg{From: i} }
	for i, edge := range g.Edges {
		Spoil(edge.Legs, mark(i))
	}
	for i, edge := range g.Edges {
		for _, leg := range Whole(edge.Legs) {
			if leg != mark(i) {
				return false
			}
		}
	}
	return true
}
