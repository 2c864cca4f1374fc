package early_test

import (
	"math/rand"
	"testing"

	"timeweft/api"
	"timeweft/internal/probe"
)

// last is of each vertex the last time from which one can be somewhere at the end.
func last(all [][]probe.Grid, to, end int) []int {
	l := every(-1, len(all))
	for v := range all {
		for at, here := range all[v] {
			if here[end][to] {
				l[v] = at
			}
		}
	}
	return l
}

// holdFrom asks where one comes to from one vertex at one time, and how.
func holdFrom(t *testing.T, g api.Graph, all [][]probe.Grid, from, start int) {
	t.Helper()
	want := all[from][start].First(len(g.Lives))
	arrives(t, g, g, from, start, want)
	for to, time := range want {
		if time == api.Inf {
			noWay(t, g, g, from, start, to, api.ErrNone)
		} else {
			leads(t, g, g, from, start, to, time)
		}
	}
}

// holdAll asks all that can be asked of a graph.
func holdAll(t *testing.T, g api.Graph) {
	t.Helper()
	all := walks(g)
	for v := range g.Lives {
		for at := range g.Horizon {
			holdFrom(t, g, all, v, at)
			departs(t, g, g, v, at, last(all, v, at))
		}
	}
}

func TestRightGraphs(t *testing.T) {
	for _, g := range rightGraphs() {
		holdAll(t, g)
	}
}

// oneLeg are those of probe.OneLeg; nothing here hangs on their cost.
func oneLeg(a, b, horizon int) []api.Edge {
	return probe.OneLeg(a, b, horizon, 0)
}

// TestSmallPairs: all lives of two vertices within three times, an edge of any leg from the one to the other, and a second edge of any ends.
func TestSmallPairs(t *testing.T) {
	const horizon = 3
	second := list(edge(1, 0, leg(0, 3, 1)), edge(1, 0, leg(0, 1, 2), leg(1, 3, 1)), edge(1, 1, leg(0, 3, 1)), edge(0, 0, leg(0, 2, 1)), edge(0, 1, leg(1, 2, 1)))
	for _, x := range spans(horizon) {
		for _, y := range spans(horizon) {
			for _, e := range oneLeg(0, 1, horizon) {
				for _, other := range second {
					holdAll(t, living(horizon, list(x, y), e, other))
				}
			}
		}
	}
}

// TestSmallWays: a way of two edges of any leg each, by way of a vertex of any life, and with a third edge straight on or back.
func TestSmallWays(t *testing.T) {
	const horizon = 3
	ever := span(0, horizon)
	for _, life := range spans(horizon) {
		for _, e := range oneLeg(0, 1, horizon) {
			for _, f := range oneLeg(1, 2, horizon) {
				holdAll(t, living(horizon, list(ever, life, ever), f, e, edge(0, 2, leg(1, 2, 1))))
				holdAll(t, living(horizon, list(ever, life, ever), e, f, edge(1, 0, leg(0, 3, 1))))
			}
		}
	}
}

// TestTwoLegs: all legs that one edge can have two of within four times, one of them quicker than the other or not, on the way to a third vertex.
func TestTwoLegs(t *testing.T) {
	const horizon = 5
	for _, x := range oneLeg(0, 1, 4) {
		for _, y := range oneLeg(0, 1, 4) {
			if x.Legs[0].To <= y.Legs[0].From {
				e := edge(0, 1, x.Legs[0], y.Legs[0])
				holdAll(t, everAlive(horizon, 3, e, edge(1, 2, leg(0, 2, 2), leg(2, 5, 1))))
			}
		}
	}
}

// TestGreatGraphs: up to as much of everything as there may be; the same ones each time.
func TestGreatGraphs(t *testing.T) {
	r := rand.New(rand.NewSource(8))
	for range 150 {
		g := probe.SomeGraph(r.Intn)
		all := walks(g)
		for v := range g.Lives {
			holdFrom(t, g, all, v, r.Intn(g.Horizon))
			for at := range g.Horizon {
				arrives(t, g, g, v, at, all[v][at].First(len(g.Lives)))
				departs(t, g, g, v, at, last(all, v, at))
			}
		}
	}
}
