package turn_test

import (
	"math"
	"slices"
	"testing"

	"timeweft/api"
	"timeweft/graph"
	"timeweft/internal/probe"
	"timeweft/turn"
)

// What the tests of several packages have is short here.
var (
	span, leg, edge          = probe.Span, probe.Leg, probe.Edge
	living, everAlive        = probe.Living, probe.EverAlive
	town, chain, ring        = probe.Town, probe.Chain, probe.Ring
	rightGraphs, wrongGraphs = probe.RightGraphs, probe.WrongGraphs
	wild, spans, oneLeg      = probe.Wild, probe.Spans, probe.OneLeg
)

// list is short for one list.
func list[T any](l ...T) []T {
	return l
}

// turns reports an answer of Reverse that isn't the graph that is wanted, or no graph.
func turns(t *testing.T, what any, g, want api.Graph) {
	t.Helper()
	if got, e := turn.Reverse(g); e != api.OK || !probe.SameGraph(got, want) || graph.Check(got) != api.OK {
		t.Error(what, got, e, "not", want)
	}
}

// leaves reports an answer of Only that isn't the graph that is wanted, or no graph.
func leaves(t *testing.T, what any, g api.Graph, keep []bool, want api.Graph) {
	t.Helper()
	if got, e := turn.Only(g, keep); e != api.OK || !probe.SameGraph(got, want) || graph.Check(got) != api.OK {
		t.Error(what, keep, got, e, "not", want)
	}
}

// isNone says whether a graph is what is told beside an error.
func isNone(g api.Graph) bool {
	return g.Horizon == 0 && g.Lives == nil && g.Edges == nil
}

// noTurn reports an answer of Reverse that isn't the error that is wanted, alone.
func noTurn(t *testing.T, what any, g api.Graph, want api.Errno) {
	t.Helper()
	if got, e := turn.Reverse(g); e != want || !isNone(got) {
		t.Error(what, got, e, "not", want)
	}
}

// noPart reports an answer of Only that isn't the error that is wanted, alone.
func noPart(t *testing.T, what any, g api.Graph, keep []bool, want api.Errno) {
	t.Helper()
	if got, e := turn.Only(g, keep); e != want || !isNone(got) {
		t.Error(what, keep, got, e, "not", want)
	}
}

// TestExample: 10 - 4 - 3 is 3.
func TestExample(t *testing.T) {
	turns(t, "example", everAlive(10, 2, edge(0, 1, leg(4, 6, 3, 8))), everAlive(10, 2, edge(1, 0, leg(1, 3, 3, 8))))
}

// TestReverse: each leg is an edge, those that nobody comes by, and edges without legs, are none, and who isn't there when one comes changes nothing.
func TestReverse(t *testing.T) {
	turns(t, "town", town(), living(10, list(span(0, 10), span(2, 8), span(1, 10), span(0, 5)),
		edge(1, 0, leg(5, 8, 2, 5)),
		edge(1, 0, leg(3, 6, 1, 1)),
		edge(2, 1, leg(0, 8, 1, 2)),
		edge(2, 0, leg(0, 9, 1, 4)),
		edge(2, 2, leg(0, 7, 3, 0)),
		edge(2, 3, leg(3, 9, 1, 6)),
		edge(2, 3, leg(2, 3, 1, 1)),
		edge(0, 2, leg(3, 5, 1, 0)),
		edge(1, 0, leg(0, 3, 2, 3))))
}

// TestReverseHorizon: one leaves first where the leg comes at the last time; what comes at the horizon is cut off, and a leg of which all is has no edge.
func TestReverseHorizon(t *testing.T) {
	for _, c := range []struct {
		leg, want api.Leg
	}{
		{leg(0, 1, 1, 7), leg(8, 9, 1, 7)},
		{leg(0, 10, 1, 7), leg(0, 9, 1, 7)},
		{leg(0, 10, 9, 7), leg(0, 1, 9, 7)},
		{leg(4, 7, 3, 7), leg(0, 3, 3, 7)},
		{leg(4, 8, 3, 7), leg(0, 3, 3, 7)},
		{leg(4, 6, 3, 7), leg(1, 3, 3, 7)},
		{leg(6, 7, 3, 7), leg(0, 1, 3, 7)},
		{leg(8, 10, 1, 1000), leg(0, 1, 1, 1000)},
	} {
		turns(t, c.leg, everAlive(10, 2, edge(0, 1, c.leg)), everAlive(10, 2, edge(1, 0, c.want)))
	}
	for _, late := range list(leg(0, 10, 10, 7), leg(7, 8, 3, 7), leg(7, 10, 3, 7), leg(9, 10, 1, 7), leg(0, 1, 50, 7), leg(9, 10, 50, 7)) {
		turns(t, late, everAlive(10, 2, edge(0, 1, late)), everAlive(10, 2))
	}
}

// TestReverseLives: a life is turned round within the horizon, whatever edges there are.
func TestReverseLives(t *testing.T) {
	turns(t, "no vertex", api.Graph{Horizon: 3}, api.Graph{Horizon: 3})
	turns(t, "lives", living(9, list(span(0, 1), span(8, 9), span(0, 9), span(2, 3))), living(9, list(span(8, 9), span(0, 1), span(0, 9), span(6, 7))))
	turns(t, "an edge between who is never there together", living(9, list(span(0, 1), span(8, 9)), edge(0, 1, leg(3, 4, 2, 6))),
		living(9, list(span(8, 9), span(0, 1)), edge(1, 0, leg(3, 4, 2, 6))))
}

// many has a number of edges, and as many legs each as can be told apart, of which all come in time.
func many(edges, legs int) api.Graph {
	g := everAlive(20, 3)
	for i := range edges {
		e := edge(i%3, (i+1)%3)
		for from := range legs {
			e.Legs = append(e.Legs, leg(2*from, 2*from+1, 1+i%2, i))
		}
		g.Edges = append(g.Edges, e)
	}
	return g
}

// TestReverseTooMany: 30 edges, but not 31, and those alone count by which one comes.
func TestReverseTooMany(t *testing.T) {
	late := list(leg(17, 18, 3, 0), leg(18, 19, 2, 0), leg(19, 20, 1, 0))
	for _, c := range []struct {
		edges, legs int
	}{{30, 1}, {15, 2}, {10, 3}, {6, 5}, {5, 6}} {
		back, e := turn.Reverse(many(c.edges, c.legs))
		if e != api.OK || len(back.Edges) != api.MaxEdges || graph.Check(back) != api.OK {
			t.Error(c, back, e)
		}
		if c.legs < api.MaxLegs {
			g := many(c.edges, c.legs)
			legs := &g.Edges[c.edges/2].Legs
			*legs = append(*legs, late[2])
			turns(t, c, g, back)
			(*legs)[c.legs] = leg(18, 19, 1, 0)
			noTurn(t, c, g, api.ErrLarge)
		}
		if c.edges < api.MaxEdges {
			g := many(c.edges, c.legs)
			g.Edges = slices.Insert(g.Edges, 1, edge(0, 1, late...), edge(1, 0))
			turns(t, c, g, back)
			g.Edges = append(g.Edges, edge(0, 1, leg(18, 19, 1, 0)))
			noTurn(t, c, g, api.ErrLarge)
		}
	}
	noTurn(t, "all", many(30, 6), api.ErrLarge)
	noTurn(t, "a ring", ring(), api.ErrLarge)
}

// TestReverseAllTooLate: however many legs there are, they are no edges if nobody comes.
func TestReverseAllTooLate(t *testing.T) {
	g := everAlive(6, 2)
	for range api.MaxEdges {
		e := edge(0, 1)
		for from := range api.MaxLegs {
			e.Legs = append(e.Legs, leg(from, from+1, 6, 1))
		}
		g.Edges = append(g.Edges, e)
	}
	turns(t, "none", g, everAlive(6, 2))
}

func TestOnly(t *testing.T) {
	const in, no = true, false
	x, y, z, u := span(0, 10), span(2, 8), span(0, 9), span(5, 10)
	toOne, further, straight, round, bare, back, home, again := town().Edges[0].Legs, town().Edges[1].Legs, town().Edges[2].Legs,
		town().Edges[3].Legs, town().Edges[4].Legs, town().Edges[5].Legs, town().Edges[6].Legs, town().Edges[7].Legs
	for _, c := range []struct {
		keep []bool
		want api.Graph
	}{
		{list(in, in, in, in), town()},
		{list(no, no, no, no), living(10, nil)},
		{list(in, no, no, no), living(10, list(x))},
		// A loop stays with its one vertex.
		{list(no, no, in, no), living(10, list(z), edge(0, 0, round...))},
		{list(in, in, no, no), living(10, list(x, y), edge(0, 1, toOne...), edge(0, 1, again...))},
		{list(in, no, in, no), living(10, list(x, z), edge(0, 1, straight...), edge(1, 1, round...), edge(1, 0, home...))},
		{list(no, in, in, no), living(10, list(y, z), edge(0, 1, further...), edge(1, 1, round...))},
		// An edge stays without legs, too.
		{list(no, no, in, in), living(10, list(z, u), edge(0, 0, round...), edge(0, 1, bare...), edge(1, 0, back...))},
		{list(no, in, no, in), living(10, list(y, u))},
	} {
		leaves(t, "town", town(), c.keep, c.want)
	}
}

// TestOnlyEdges: who keeps all, or has nothing to keep, has the same graph again, and a vertex that is kept alone is vertex 0.
func TestOnlyEdges(t *testing.T) {
	leaves(t, "no vertex", api.Graph{Horizon: 3}, nil, api.Graph{Horizon: 3})
	leaves(t, "no vertex", api.Graph{Horizon: 3}, []bool{}, api.Graph{Horizon: 3})
	for i, g := range rightGraphs() {
		leaves(t, i, g, slices.Repeat(list(true), len(g.Lives)), g)
		leaves(t, i, g, make([]bool, len(g.Lives)), api.Graph{Horizon: g.Horizon})
	}
	g := chain(false)
	g.Edges = append(g.Edges, edge(11, 11, leg(3, 4, 5, 6)))
	leaves(t, "the last", g, append(make([]bool, 11), true), everAlive(api.MaxHorizon, 1, edge(0, 0, leg(3, 4, 5, 6))))
}

// TestOnlyWrongLength: keep has one element a vertex, no more and no less, whatever it says.
func TestOnlyWrongLength(t *testing.T) {
	for i, g := range rightGraphs() {
		n := len(g.Lives)
		for _, length := range list(0, 1, n-1, n+1, 2*n, api.MaxVertices, api.MaxVertices+1, 1000) {
			if length >= 0 && length != n {
				noPart(t, i, g, make([]bool, length), api.ErrForm)
				noPart(t, i, g, slices.Repeat(list(true), length), api.ErrForm)
			}
		}
		if n > 0 {
			noPart(t, i, g, nil, api.ErrForm)
		}
	}
}

// TestWrongGraphs: graph.Check's error is told first, whatever is to be kept, and however many edges there would be.
func TestWrongGraphs(t *testing.T) {
	large := many(30, 6)
	large.Lives[2].To = 21
	crossed := many(30, 6)
	crossed.Edges[29].Legs[5].From = 2
	for i, g := range append(wrongGraphs(), large, crossed) {
		want := graph.Check(g)
		if want == api.OK {
			t.Fatal(i, "a right graph")
		}
		noTurn(t, i, g, want)
		for _, length := range list(0, 1, len(g.Lives), len(g.Lives)+1) {
			noPart(t, i, g, make([]bool, length), want)
			noPart(t, i, g, slices.Repeat(list(true), length), want)
		}
	}
}

// TestGreatNumbers: what is no number of a vertex is refused ahead of being asked for in keep.
func TestGreatNumbers(t *testing.T) {
	for _, v := range list(math.MinInt, -1, 2, math.MaxInt) {
		for _, e := range list(edge(v, 0), edge(0, v), edge(v, v)) {
			noPart(t, v, everAlive(3, 2, e), list(true, true), api.ErrNone)
			noPart(t, v, everAlive(3, 2, e), list(true, true, true), api.ErrNone)
			noTurn(t, v, everAlive(3, 2, e), api.ErrNone)
		}
	}
}
