package early_test

import (
	"math/rand"
	"testing"

	"timeweft/api"
)

// grid says of each time at which vertices one can be.
type grid [][]bool

// lives says whether a vertex is there.
func lives(g api.Graph, v, at int) bool {
	return at >= g.Lives[v].From && at <= g.Lives[v].To-1
}

// spread goes on from one vertex at one time: it waits for the next time, and takes each leg that leaves.
func (here grid) spread(g api.Graph, v, at int) {
	come := func(w, then int) {
		if then < g.Horizon && lives(g, w, then) {
			here[then][w] = true
		}
	}
	come(v, at+1)
	for _, e := range g.Edges {
		for _, l := range e.Legs {
			if e.A == v && l.From <= at && at < l.To {
				come(e.B, at+l.Time)
			}
		}
	}
}

// walk tries all that one can do, one time after the other.
func walk(g api.Graph, from, start int) grid {
	here := make(grid, g.Horizon)
	for at := range here {
		here[at] = make([]bool, len(g.Lives))
	}
	here[start][from] = lives(g, from, start)
	for at := start; at < g.Horizon; at++ {
		for v := range g.Lives {
			if here[at][v] {
				here.spread(g, v, at)
			}
		}
	}
	return here
}

// walks are those from each vertex at each time.
func walks(g api.Graph) [][]grid {
	all := make([][]grid, len(g.Lives))
	for v := range all {
		for at := range g.Horizon {
			all[v] = append(all[v], walk(g, v, at))
		}
	}
	return all
}

// first is of each vertex the first time at which one can be there.
func (here grid) first(vertices int) []int {
	l := every(api.Inf, vertices)
	for at := len(here) - 1; at >= 0; at-- {
		for v, can := range here[at] {
			if can {
				l[v] = at
			}
		}
	}
	return l
}

// last is of each vertex the last time from which one can be somewhere at the end.
func last(all [][]grid, to, end int) []int {
	l := every(-1, len(all))
	for v := range all {
		for at, here := range all[v] {
			if here[end][to] {
				l[v] = at
			}
		}
	}
	return l
}

// holdFrom asks where one comes to from one vertex at one time, and how.
func holdFrom(t *testing.T, g api.Graph, all [][]grid, from, start int) {
	t.Helper()
	want := all[from][start].first(len(g.Lives))
	arrives(t, g, g, from, start, want)
	for to, time := range want {
		if time == api.Inf {
			noWay(t, g, g, from, start, to, api.ErrNone)
		} else {
			leads(t, g, g, from, start, to, time)
		}
	}
}

// holdAll asks all that can be asked of a graph.
func holdAll(t *testing.T, g api.Graph) {
	t.Helper()
	all := walks(g)
	for v := range g.Lives {
		for at := range g.Horizon {
			holdFrom(t, g, all, v, at)
			departs(t, g, g, v, at, last(all, v, at))
		}
	}
}

func TestRightGraphs(t *testing.T) {
	for _, g := range rightGraphs() {
		holdAll(t, g)
	}
}

// spans are all that lie within a number of times.
func spans(horizon int) []api.Ivl {
	var l []api.Ivl
	for from := range horizon {
		for to := from + 1; to <= horizon; to++ {
			l = append(l, span(from, to))
		}
	}
	return l
}

// oneLeg are all edges of one leg from a vertex to another within a number of times, those included by which one comes behind them.
func oneLeg(a, b, horizon int) []api.Edge {
	var l []api.Edge
	for _, s := range spans(horizon) {
		for time := 1; time <= horizon; time++ {
			l = append(l, edge(a, b, leg(s.From, s.To, time)))
		}
	}
	return l
}

// TestSmallPairs: all lives of two vertices within three times, an edge of any leg from the one to the other, and a second edge of any ends.
func TestSmallPairs(t *testing.T) {
	const horizon = 3
	second := list(edge(1, 0, leg(0, 3, 1)), edge(1, 0, leg(0, 1, 2), leg(1, 3, 1)), edge(1, 1, leg(0, 3, 1)), edge(0, 0, leg(0, 2, 1)), edge(0, 1, leg(1, 2, 1)))
	for _, x := range spans(horizon) {
		for _, y := range spans(horizon) {
			for _, e := range oneLeg(0, 1, horizon) {
				for _, other := range second {
					holdAll(t, living(horizon, list(x, y), e, other))
				}
			}
		}
	}
}

// TestSmallWays: a way of two edges of any leg each, by way of a vertex of any life, and with a third edge straight on or back.
func TestSmallWays(t *testing.T) {
	const horizon = 3
	ever := span(0, horizon)
	for _, life := range spans(horizon) {
		for _, e := range oneLeg(0, 1, horizon) {
			for _, f := range oneLeg(1, 2, horizon) {
				holdAll(t, living(horizon, list(ever, life, ever), f, e, edge(0, 2, leg(1, 2, 1))))
				holdAll(t, living(horizon, list(ever, life, ever), e, f, edge(1, 0, leg(0, 3, 1))))
			}
		}
	}
}

// TestTwoLegs: all legs that one edge can have two of within four times, one of them quicker than the other or not, on the way to a third vertex.
func TestTwoLegs(t *testing.T) {
	const horizon = 5
	for _, x := range oneLeg(0, 1, 4) {
		for _, y := range oneLeg(0, 1, 4) {
			if x.Legs[0].To <= y.Legs[0].From {
				e := edge(0, 1, x.Legs[0], y.Legs[0])
				holdAll(t, everAlive(horizon, 3, e, edge(1, 2, leg(0, 2, 2), leg(2, 5, 1))))
			}
		}
	}
}

// someSpan is one of any length within the horizon.
func someSpan(r *rand.Rand, horizon int) api.Ivl {
	from := r.Intn(horizon)
	return span(from, from+1+r.Intn(horizon-from))
}

// someGraph has up to as much of everything as there may be.
func someGraph(r *rand.Rand) api.Graph {
	g := api.Graph{Horizon: 1 + r.Intn(api.MaxHorizon)}
	for range 1 + r.Intn(api.MaxVertices) {
		life := span(0, g.Horizon)
		if r.Intn(3) == 0 {
			life = someSpan(r, g.Horizon)
		}
		g.Lives = append(g.Lives, life)
	}
	slow, apart := []int{2, 6, api.MaxTravel}[r.Intn(3)], []int{3, 20}[r.Intn(2)]
	for range r.Intn(api.MaxEdges + 1) {
		e := edge(r.Intn(len(g.Lives)), r.Intn(len(g.Lives)))
		for from := r.Intn(g.Horizon); from < g.Horizon && len(e.Legs) < api.MaxLegs; {
			to := from + 1 + r.Intn(min(g.Horizon-from, 20))
			e.Legs = append(e.Legs, leg(from, to, 1+r.Intn(slow)))
			from = to + r.Intn(apart)
		}
		g.Edges = append(g.Edges, e)
	}
	return g
}

// TestGreatGraphs: up to as much of everything as there may be; the same ones each time.
func TestGreatGraphs(t *testing.T) {
	r := rand.New(rand.NewSource(8))
	for range 150 {
		g := someGraph(r)
		all := walks(g)
		for v := range g.Lives {
			holdFrom(t, g, all, v, r.Intn(g.Horizon))
			for at := range g.Horizon {
				arrives(t, g, g, v, at, all[v][at].first(len(g.Lives)))
				departs(t, g, g, v, at, last(all, v, at))
			}
		}
	}
}
