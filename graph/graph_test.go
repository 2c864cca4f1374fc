package graph_test

import (
	"math"
	"slices"
	"testing"

	"timeweft/api"
	"timeweft/graph"
	"timeweft/internal/probe"
)

// span is short for one life.
func span(from, to int) api.Ivl {
	return api.Ivl{From: from, To: to}
}

// leg is short for one leg.
func leg(from, to, time, cost int) api.Leg {
	return api.Leg{From: from, To: to, Time: time, Cost: cost}
}

// edge is short for one edge.
func edge(a, b int, legs ...api.Leg) api.Edge {
	return api.Edge{A: a, B: b, Legs: legs}
}

// town has vertices that come later and go earlier than others, legs that touch and legs with a gap, an edge without legs, a loop, and two edges between the same vertices.
func town() api.Graph {
	return api.Graph{Horizon: 10, Lives: []api.Ivl{span(0, 10), span(2, 8), span(0, 1), span(9, 10)}, Edges: []api.Edge{
		edge(0, 1, leg(0, 3, 2, 5), leg(3, 6, 1, 1), leg(7, 10, 50, 1000)),
		edge(1, 0),
		edge(1, 1, leg(4, 5, 3, 0)),
		edge(0, 2, leg(0, 10, 1, 7)),
		edge(0, 1, leg(5, 9, 4, 3)),
		edge(3, 0, leg(8, 9, 1, 2), leg(9, 10, 1, 4)),
	}}
}

// full has as much of everything as there may be, and the greatest numbers.
func full() api.Graph {
	g := api.Graph{Horizon: api.MaxHorizon}
	for range api.MaxVertices {
		g.Lives = append(g.Lives, span(0, api.MaxHorizon))
	}
	for i := range api.MaxEdges {
		e := edge(i%api.MaxVertices, api.MaxVertices-1)
		for from := api.MaxHorizon - api.MaxLegs; from < api.MaxHorizon; from++ {
			e.Legs = append(e.Legs, leg(from, from+1, api.MaxTravel, api.MaxCost))
		}
		g.Edges = append(g.Edges, e)
	}
	return g
}

// least has as little of everything as there may be, but of something.
func least() api.Graph {
	return api.Graph{Horizon: 1, Lives: []api.Ivl{span(0, 1)}, Edges: []api.Edge{edge(0, 0, leg(0, 1, 1, 0))}}
}

func rightGraphs() []api.Graph {
	return []api.Graph{
		{Horizon: 1},
		{Horizon: api.MaxHorizon, Lives: []api.Ivl{}, Edges: []api.Edge{}},
		{Horizon: 5, Lives: []api.Ivl{span(0, 5)}},
		{Horizon: 5, Lives: []api.Ivl{span(4, 5), span(0, 1)}, Edges: []api.Edge{edge(1, 0), {A: 0, B: 1, Legs: []api.Leg{}}}},
		// A leg may leave while its vertices aren't there, and come behind the horizon.
		{Horizon: 3, Lives: []api.Ivl{span(0, 1), span(1, 2)}, Edges: []api.Edge{edge(0, 1, leg(2, 3, 50, 1000))}},
		least(), town(), full(),
	}
}

// fault is one thing that makes a graph wrong, with its error.
type fault struct {
	name string
	do   func(g *api.Graph)
	want api.Errno
}

// faults stand in the order in which they are told: of two in one graph the first one's error is the answer.
func faults() []fault {
	return []fault{
		{"Horizon 101", func(g *api.Graph) { g.Horizon = api.MaxHorizon + 1 }, api.ErrArg},
		{"31 edges", func(g *api.Graph) { g.Edges = append(g.Edges, make([]api.Edge, api.MaxEdges)...) }, api.ErrLarge},
		{"the first life ends late", func(g *api.Graph) { g.Lives[0].To = 11 }, api.ErrArg},
		{"the last life ends as it begins", func(g *api.Graph) { g.Lives[3] = span(9, 9) }, api.ErrArg},
		{"the first edge from nowhere", func(g *api.Graph) { g.Edges[0].A = 4 }, api.ErrNone},
		{"the first edge with 7 legs", func(g *api.Graph) { g.Edges[0].Legs = append(g.Edges[0].Legs, make([]api.Leg, 4)...) }, api.ErrLarge},
		{"the first leg costs too much", func(g *api.Graph) { g.Edges[0].Legs[0].Cost = api.MaxCost + 1 }, api.ErrArg},
		{"the second leg too early", func(g *api.Graph) { g.Edges[0].Legs[1].From = 2 }, api.ErrForm},
		{"the third leg takes no time", func(g *api.Graph) { g.Edges[0].Legs[2].Time = 0 }, api.ErrArg},
		{"the third leg too early", func(g *api.Graph) { g.Edges[0].Legs[2].From = 5 }, api.ErrForm},
		{"a later edge to nowhere", func(g *api.Graph) { g.Edges[2].B = -1 }, api.ErrNone},
		{"its leg ends late", func(g *api.Graph) { g.Edges[2].Legs[0].To = 11 }, api.ErrArg},
		{"the last edge with 7 legs", func(g *api.Graph) { g.Edges[5].Legs = make([]api.Leg, 7) }, api.ErrLarge},
	}
}

// with is a graph with one more change.
func with(g api.Graph, do func(g *api.Graph)) api.Graph {
	g = probe.CopyGraph(g)
	do(&g)
	return g
}

// wrongGraph is a graph that Check refuses, with its error.
type wrongGraph struct {
	name string
	g    api.Graph
	want api.Errno
}

func wrongGraphs() []wrongGraph {
	all := []wrongGraph{
		{"no Horizon", api.Graph{}, api.ErrArg},
		{"13 vertices", with(least(), func(g *api.Graph) { g.Lives = slices.Repeat(g.Lives, api.MaxVertices+1) }), api.ErrLarge},
		{"31 edges", with(least(), func(g *api.Graph) { g.Edges = slices.Repeat(g.Edges, api.MaxEdges+1) }), api.ErrLarge},
		{"13 vertices, the first one wrong", api.Graph{Horizon: 1, Lives: make([]api.Ivl, api.MaxVertices+1)}, api.ErrLarge},
		{"Horizon 0 and 13 vertices", api.Graph{Lives: make([]api.Ivl, api.MaxVertices+1)}, api.ErrArg},
		{"an edge without vertices", api.Graph{Horizon: 1, Edges: []api.Edge{{}}}, api.ErrNone},
		{"one leg twice", with(least(), func(g *api.Graph) { g.Edges[0].Legs = slices.Repeat(g.Edges[0].Legs, 2) }), api.ErrForm},
		{"legs that fall", with(town(), func(g *api.Graph) { slices.Reverse(g.Edges[0].Legs) }), api.ErrForm},
		{"a leg both wrong and too early", with(town(), func(g *api.Graph) { g.Edges[0].Legs[1] = leg(2, 2, 1, 1) }), api.ErrArg},
	}
	for _, n := range []int{math.MinInt, -1, 0, 101, math.MaxInt} {
		all = append(all, wrongGraph{"Horizon", with(least(), func(g *api.Graph) { g.Horizon = n }), api.ErrArg})
	}
	for _, life := range []api.Ivl{span(-1, 5), span(0, 11), span(5, 5), span(6, 5), span(10, 11), span(-2, -1), span(math.MinInt, math.MaxInt), span(math.MaxInt, math.MinInt)} {
		all = append(all,
			wrongGraph{"a life", with(town(), func(g *api.Graph) { g.Lives[0] = life }), api.ErrArg},
			wrongGraph{"the last life", with(town(), func(g *api.Graph) { g.Lives[3] = life }), api.ErrArg},
			wrongGraph{"a leg's times", with(town(), func(g *api.Graph) { g.Edges[2].Legs[0] = leg(life.From, life.To, 1, 1) }), api.ErrArg})
	}
	for _, n := range []int{math.MinInt, -1, 4, math.MaxInt} {
		all = append(all,
			wrongGraph{"A", with(town(), func(g *api.Graph) { g.Edges[5].A = n }), api.ErrNone},
			wrongGraph{"B", with(town(), func(g *api.Graph) { g.Edges[5].B = n }), api.ErrNone})
	}
	for _, n := range []int{math.MinInt, -1, 0, 51, math.MaxInt} {
		all = append(all, wrongGraph{"Time", with(town(), func(g *api.Graph) { g.Edges[5].Legs[1].Time = n }), api.ErrArg})
	}
	for _, n := range []int{math.MinInt, -1, 1001, math.MaxInt} {
		all = append(all, wrongGraph{"Cost", with(town(), func(g *api.Graph) { g.Edges[5].Legs[1].Cost = n }), api.ErrArg})
	}
	return all
}

func TestCheck(t *testing.T) {
	for i, g := range rightGraphs() {
		if e := graph.Check(g); e != api.OK {
			t.Error(i, e)
		}
	}
	for _, c := range wrongGraphs() {
		if e := graph.Check(c.g); e != c.want {
			t.Error(c.name, c.g, e, c.want)
		}
	}
}

// TestCheckTellsTheFirst: alone and beside any that is told later, each fault has its error.
func TestCheckTellsTheFirst(t *testing.T) {
	all := faults()
	for i, first := range all {
		if e := graph.Check(with(town(), first.do)); e != first.want {
			t.Error(first.name, e, first.want)
		}
		for _, second := range all[i+1:] {
			if e := graph.Check(with(with(town(), second.do), first.do)); e != first.want {
				t.Error(first.name, "and", second.name, e, first.want)
			}
		}
	}
}

// expectSnapshot holds a snapshot against what is told of each vertex and edge.
func expectSnapshot(t *testing.T, name any, got api.Snapshot, alive []bool, arcs []api.Arc, e api.Errno) {
	t.Helper()
	if e != api.OK || !slices.Equal(got.Alive, alive) || !slices.Equal(got.Arcs, arcs) {
		t.Error(name, got, e, alive, arcs)
	}
}

func TestAt(t *testing.T) {
	for _, c := range []struct {
		time  int
		alive []bool
		arcs  []api.Arc
	}{
		{0, []bool{true, false, true, false}, []api.Arc{{A: 0, B: 2, Cost: 7}}},
		{1, []bool{true, false, false, false}, nil},
		{2, []bool{true, true, false, false}, []api.Arc{{A: 0, B: 1, Cost: 5}}},
		{3, []bool{true, true, false, false}, []api.Arc{{A: 0, B: 1, Cost: 1}}},
		{4, []bool{true, true, false, false}, []api.Arc{{A: 0, B: 1, Cost: 1}, {A: 1, B: 1, Cost: 0}}},
		{5, []bool{true, true, false, false}, []api.Arc{{A: 0, B: 1, Cost: 1}, {A: 0, B: 1, Cost: 3}}},
		{6, []bool{true, true, false, false}, []api.Arc{{A: 0, B: 1, Cost: 3}}},
		{7, []bool{true, true, false, false}, []api.Arc{{A: 0, B: 1, Cost: 1000}, {A: 0, B: 1, Cost: 3}}},
		{8, []bool{true, false, false, false}, nil},
		{9, []bool{true, false, false, true}, []api.Arc{{A: 3, B: 0, Cost: 4}}},
	} {
		got, e := graph.At(town(), c.time)
		expectSnapshot(t, c.time, got, c.alive, c.arcs, e)
	}
}

// TestAtEdges: a graph without vertices has a snapshot, and the last time is the one ahead of Horizon.
func TestAtEdges(t *testing.T) {
	got, e := graph.At(api.Graph{Horizon: 1}, 0)
	expectSnapshot(t, "empty", got, nil, nil, e)
	got, e = graph.At(least(), 0)
	expectSnapshot(t, "least", got, []bool{true}, []api.Arc{{}}, e)
	got, e = graph.At(full(), api.MaxHorizon-1)
	if e != api.OK || len(got.Alive) != api.MaxVertices || slices.Contains(got.Alive, false) || len(got.Arcs) != api.MaxEdges {
		t.Error("full", got, e)
	}
	for i, arc := range got.Arcs {
		if arc != (api.Arc{A: i % api.MaxVertices, B: api.MaxVertices - 1, Cost: api.MaxCost}) {
			t.Error("full", i, arc)
		}
	}
}

func TestAtWrong(t *testing.T) {
	refused := func(name string, g api.Graph, at int, want api.Errno) {
		t.Helper()
		if got, e := graph.At(g, at); e != want || got.Alive != nil || got.Arcs != nil {
			t.Error(name, at, got, e, want)
		}
	}
	for _, g := range rightGraphs() {
		for _, at := range []int{math.MinInt, -1, g.Horizon, g.Horizon + 1, math.MaxInt} {
			refused("a time", g, at, api.ErrArg)
		}
	}
	for _, c := range wrongGraphs() {
		for _, at := range []int{math.MinInt, -1, 0, 4, math.MaxInt} {
			refused(c.name, c.g, at, c.want)
		}
	}
}

// spans are all that lie within a number of times.
func spans(horizon int) []api.Ivl {
	var l []api.Ivl
	for from := range horizon {
		for to := from + 1; to <= horizon; to++ {
			l = append(l, span(from, to))
		}
	}
	return l
}

// TestAtSmall: all lives of two vertices, and all pairs of legs, at each of four times.
func TestAtSmall(t *testing.T) {
	const horizon = 4
	all := spans(horizon)
	has := func(v api.Ivl, at int) bool { return at >= v.From && at <= v.To-1 }
	for _, x := range all {
		for _, y := range all {
			for _, p := range all {
				for _, q := range all {
					g := api.Graph{Horizon: horizon, Lives: []api.Ivl{x, y}, Edges: []api.Edge{edge(1, 0, leg(p.From, p.To, 1, 8), leg(q.From, q.To, 2, 9))}}
					if q.From < p.To {
						if e := graph.Check(g); e != api.ErrForm {
							t.Fatal(g, e)
						}
						continue
					}
					for at := range horizon {
						alive := []bool{has(x, at), has(y, at)}
						var arcs []api.Arc
						if alive[0] && alive[1] && has(p, at) {
							arcs = []api.Arc{{A: 1, B: 0, Cost: 8}}
						}
						if alive[0] && alive[1] && has(q, at) {
							arcs = []api.Arc{{A: 1, B: 0, Cost: 9}}
						}
						got, e := graph.At(g, at)
						expectSnapshot(t, g, got, alive, arcs, e)
					}
				}
			}
		}
	}
}
