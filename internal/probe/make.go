package probe

import (
	"slices"

	"timeweft/api"
)

// Span is short for one life.
func Span(from, to int) api.Ivl {
	return api.Ivl{From: from, To: to}
}

// Leg is short for one leg.
func Leg(from, to, time, cost int) api.Leg {
	return api.Leg{From: from, To: to, Time: time, Cost: cost}
}

// Edge is short for one edge.
func Edge(a, b int, legs ...api.Leg) api.Edge {
	return api.Edge{A: a, B: b, Legs: legs}
}

// Living has a vertex for each life.
func Living(horizon int, lives []api.Ivl, edges ...api.Edge) api.Graph {
	return api.Graph{Horizon: horizon, Lives: lives, Edges: edges}
}

// EverAlive has a number of vertices that are there always.
func EverAlive(horizon, vertices int, edges ...api.Edge) api.Graph {
	return Living(horizon, slices.Repeat([]api.Ivl{Span(0, horizon)}, vertices), edges...)
}

// Spans are all that lie within a number of times.
func Spans(horizon int) []api.Ivl {
	var l []api.Ivl
	for from := range horizon {
		for to := from + 1; to <= horizon; to++ {
			l = append(l, Span(from, to))
		}
	}
	return l
}

// OneLeg are all edges of one leg from a vertex to another within a number of times, those included by which one comes behind them.
func OneLeg(a, b, horizon, cost int) []api.Edge {
	var l []api.Edge
	for _, s := range Spans(horizon) {
		for time := 1; time <= horizon; time++ {
			l = append(l, Edge(a, b, Leg(s.From, s.To, time, cost)))
		}
	}
	return l
}

// someSpan is one of any length within the horizon.
func someSpan(below func(n int) int, horizon int) api.Ivl {
	from := below(horizon)
	return Span(from, from+1+below(horizon-from))
}

// SomeGraph has up to as much of everything as there may be. What it has hangs on the numbers that below picks, each from 0 on and below the one that it is given.
func SomeGraph(below func(n int) int) api.Graph {
	g := api.Graph{Horizon: 1 + below(api.MaxHorizon)}
	for range 1 + below(api.MaxVertices) {
		life := Span(0, g.Horizon)
		if below(3) == 0 {
			life = someSpan(below, g.Horizon)
		}
		g.Lives = append(g.Lives, life)
	}
	slow, apart, dear := []int{2, 6, api.MaxTravel}[below(3)], []int{3, 20}[below(2)], []int{0, 2, 20, api.MaxCost}[below(4)]
	for range below(api.MaxEdges + 1) {
		e := Edge(below(len(g.Lives)), below(len(g.Lives)))
		for from := below(g.Horizon); from < g.Horizon && len(e.Legs) < api.MaxLegs; {
			to := from + 1 + below(min(g.Horizon-from, 20))
			e.Legs = append(e.Legs, Leg(from, to, 1+below(slow), below(dear+1)))
			from = to + below(apart)
		}
		g.Edges = append(g.Edges, e)
	}
	return g
}
