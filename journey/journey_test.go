package journey_test

import (
	"math"
	"slices"
	"testing"

	"timeweft/api"
	"timeweft/graph"
	"timeweft/internal/probe"
	"timeweft/journey"
)

// span is short for one life.
func span(from, to int) api.Ivl {
	return api.Ivl{From: from, To: to}
}

// leg is short for one leg.
func leg(from, to, time, cost int) api.Leg {
	return api.Leg{From: from, To: to, Time: time, Cost: cost}
}

// edge is short for one edge.
func edge(a, b int, legs ...api.Leg) api.Edge {
	return api.Edge{A: a, B: b, Legs: legs}
}

// hop is short for one hop.
func hop(edge, depart int) api.Hop {
	return api.Hop{Edge: edge, Depart: depart}
}

// hops is short for a list of them.
func hops(l ...api.Hop) []api.Hop {
	return l
}

// everAlive has a number of vertices that are there always.
func everAlive(horizon, vertices int, edges ...api.Edge) api.Graph {
	return api.Graph{Horizon: horizon, Lives: slices.Repeat([]api.Ivl{span(0, horizon)}, vertices), Edges: edges}
}

// town has vertices that come later and go earlier than others, legs at times at which one of their ends, or both, aren't there, legs that touch and legs with a gap, one that comes behind the horizon, an edge without legs, a loop, and two edges between the same vertices.
func town() api.Graph {
	return api.Graph{Horizon: 10, Lives: []api.Ivl{span(0, 10), span(2, 8), span(0, 9), span(5, 10)}, Edges: []api.Edge{
		edge(0, 1, leg(0, 3, 2, 5), leg(3, 6, 1, 1), leg(7, 10, 50, 1000)),
		edge(1, 2, leg(1, 9, 1, 2)),
		edge(0, 2, leg(0, 10, 1, 4)),
		edge(2, 2, leg(0, 9, 3, 0)),
		edge(2, 3),
		edge(3, 2, leg(0, 7, 1, 1)),
		edge(2, 0, leg(4, 6, 1, 0)),
		edge(0, 1, leg(5, 9, 2, 3)),
	}}
}

// ring has as many edges and legs as there may be, all of them from a vertex to the next one and back to the first.
func ring() api.Graph {
	g := everAlive(api.MaxHorizon, api.MaxVertices)
	for i := range api.MaxEdges {
		a := i % api.MaxVertices
		e := edge(a, (a+1)%api.MaxVertices)
		for l := range api.MaxLegs {
			from := l*16 + i%5
			e.Legs = append(e.Legs, leg(from, from+4+i%9, 1+(i+l)%3, i*l))
		}
		g.Edges = append(g.Edges, e)
	}
	return g
}

// loop lets one go round at any time, at the greatest cost.
func loop() api.Graph {
	return everAlive(api.MaxHorizon, 1, edge(0, 0, leg(0, api.MaxHorizon, 1, api.MaxCost)))
}

func rightGraphs() []api.Graph {
	return []api.Graph{
		{Horizon: 1},
		{Horizon: api.MaxHorizon, Lives: []api.Ivl{}, Edges: []api.Edge{}},
		everAlive(1, 1), everAlive(1, 1, edge(0, 0, leg(0, 1, 1, 0))), everAlive(5, api.MaxVertices),
		{Horizon: 3, Lives: []api.Ivl{span(0, 1), span(1, 3)}, Edges: []api.Edge{edge(0, 1, leg(0, 3, 1, 1))}},
		town(), ring(), loop(),
	}
}

// wrongGraphs has one graph for each error of graph.Check, and some more.
func wrongGraphs() []api.Graph {
	change := func(do func(g *api.Graph)) api.Graph {
		g := probe.CopyGraph(town())
		do(&g)
		return g
	}
	return []api.Graph{
		{},
		change(func(g *api.Graph) { g.Horizon = api.MaxHorizon + 1 }),
		change(func(g *api.Graph) { g.Lives = slices.Repeat(g.Lives, 4) }),
		change(func(g *api.Graph) { g.Edges = slices.Repeat(g.Edges, 4) }),
		change(func(g *api.Graph) { g.Lives[3].To = 11 }),
		change(func(g *api.Graph) { g.Edges[7].A = 4 }),
		change(func(g *api.Graph) { g.Edges[7].B = -1 }),
		change(func(g *api.Graph) { g.Edges[7].Legs = slices.Repeat(g.Edges[7].Legs, api.MaxLegs+1) }),
		change(func(g *api.Graph) { g.Edges[7].Legs[0].Cost = -1 }),
		change(func(g *api.Graph) { g.Edges[0].Legs[1].From = 2 }),
	}
}

// comes reports a journey that doesn't end as is wanted.
func comes(t *testing.T, what any, g api.Graph, from, start int, l []api.Hop, at, time, cost int) {
	t.Helper()
	gotAt, gotTime, gotCost, e := journey.Go(g, from, start, l)
	if e != api.OK || gotAt != at || gotTime != time || gotCost != cost {
		t.Error(what, l, gotAt, gotTime, gotCost, e, "not", at, time, cost)
	}
}

// fails reports an answer of Go that isn't the error that is wanted, alone.
func fails(t *testing.T, what any, g api.Graph, from, start int, l []api.Hop, want api.Errno) {
	t.Helper()
	if at, time, cost, e := journey.Go(g, from, start, l); e != want || at != 0 || time != 0 || cost != 0 {
		t.Error(what, from, start, l, at, time, cost, e, "not", want)
	}
}

// leaves reports an answer of Out that isn't the one that is wanted.
func leaves(t *testing.T, what any, g api.Graph, at, time int, want []api.Hop) {
	t.Helper()
	if got, e := journey.Out(g, at, time); e != api.OK || !slices.Equal(got, want) {
		t.Error(what, at, time, got, e, "not", want)
	}
}

// stays reports an answer of Out that isn't the error that is wanted, alone.
func stays(t *testing.T, what any, g api.Graph, at, time int, want api.Errno) {
	t.Helper()
	if got, e := journey.Out(g, at, time); e != want || got != nil {
		t.Error(what, at, time, got, e, "not", want)
	}
}

// TestExample: one leaves at 3, and comes at 6.
func TestExample(t *testing.T) {
	g := everAlive(7, 2, edge(0, 1, leg(3, 4, 3, 8)))
	comes(t, "example", g, 0, 0, hops(hop(0, 3)), 1, 6, 8)
	leaves(t, "example", g, 0, 0, hops(hop(0, 3)))
}

func TestGo(t *testing.T) {
	for i, c := range []struct {
		from, start    int
		l              []api.Hop
		at, time, cost int
	}{
		// Without a hop one is where one was, when one was there, for nothing.
		{0, 0, nil, 0, 0, 0},
		{0, 9, hops(), 0, 9, 0},
		{1, 2, nil, 1, 2, 0},
		{1, 7, nil, 1, 7, 0},
		// The leg that has the time is taken, whether it is the first one or not.
		{0, 0, hops(hop(0, 0)), 1, 2, 5},
		{0, 0, hops(hop(0, 2)), 1, 4, 5},
		{0, 0, hops(hop(0, 3)), 1, 4, 1},
		{0, 5, hops(hop(0, 5)), 1, 6, 1},
		// Of two edges between the same vertices that of the hop.
		{0, 5, hops(hop(7, 5)), 1, 7, 3},
		// One may leave as one comes, or wait.
		{0, 1, hops(hop(0, 3), hop(1, 4)), 2, 5, 3},
		{0, 1, hops(hop(0, 3), hop(1, 7)), 2, 8, 3},
		// To where one was, by a loop, and round.
		{2, 0, hops(hop(3, 0)), 2, 3, 0},
		{2, 0, hops(hop(3, 0), hop(3, 3)), 2, 6, 0},
		{2, 0, hops(hop(3, 0), hop(3, 5)), 2, 8, 0},
		{0, 0, hops(hop(2, 3), hop(6, 5), hop(2, 7)), 2, 8, 8},
		// From a vertex that comes late, and at the last time at which one comes below the other end's last.
		{3, 5, hops(hop(5, 6)), 2, 7, 1},
		{0, 0, hops(hop(2, 7)), 2, 8, 4},
	} {
		comes(t, i, town(), c.from, c.start, c.l, c.at, c.time, c.cost)
	}
}

func TestNoJourney(t *testing.T) {
	for i, c := range []struct {
		from, start int
		l           []api.Hop
	}{
		// The vertex isn't there at start: it comes later, or is gone.
		{1, 0, nil},
		{1, 1, hops(hop(1, 2))},
		{1, 8, nil},
		{2, 9, nil},
		{3, 4, hops(hop(5, 5))},
		// No such edge.
		{0, 0, hops(hop(-1, 0))},
		{0, 0, hops(hop(8, 0))},
		{0, 0, hops(hop(math.MinInt, 0))},
		{0, 0, hops(hop(math.MaxInt, 0))},
		// An edge from elsewhere, an edge against its way, and one that is gone on from the wrong end.
		{0, 0, hops(hop(1, 3))},
		{1, 3, hops(hop(0, 3))},
		{0, 0, hops(hop(2, 2), hop(2, 4))},
		// No leg has the time: in a gap, behind the last one, ahead of the first one, and without legs.
		{0, 0, hops(hop(0, 6))},
		{0, 0, hops(hop(7, 9))},
		{0, 0, hops(hop(7, 4))},
		{2, 0, hops(hop(4, 5))},
		{0, 0, hops(hop(0, 10))},
		{0, 0, hops(hop(0, -1))},
		{0, 0, hops(hop(0, math.MinInt))},
		{0, 0, hops(hop(0, math.MaxInt))},
		// One leaves ahead of start, or of coming.
		{0, 2, hops(hop(0, 1))},
		{0, 0, hops(hop(0, 2), hop(1, 3))},
		{2, 0, hops(hop(3, 0), hop(3, 2))},
		// One leaves where one can't be any more.
		{0, 0, hops(hop(0, 5), hop(1, 8))},
		// The other end isn't there yet, or not any more, or it would be the horizon or behind it.
		{0, 0, hops(hop(7, 6))},
		{0, 0, hops(hop(2, 8))},
		{2, 0, hops(hop(3, 6))},
		{0, 0, hops(hop(0, 7))},
		{0, 0, hops(hop(2, 9))},
		// A wrong hop ahead of right ones, and behind them.
		{0, 0, hops(hop(0, 6), hop(0, 3), hop(1, 4))},
		{0, 0, hops(hop(0, 3), hop(1, 4), hop(8, 5))},
	} {
		fails(t, i, town(), c.from, c.start, c.l, api.ErrForm)
	}
}

// TestOtherEnd: one comes at a time of the other end's life, its first and its last included, and not ahead of it or behind.
func TestOtherEnd(t *testing.T) {
	g := api.Graph{Horizon: 9, Lives: []api.Ivl{span(0, 9), span(3, 6)}, Edges: []api.Edge{edge(0, 1, leg(0, 9, 2, 1))}}
	for depart := range g.Horizon {
		if depart >= 1 && depart <= 3 {
			comes(t, depart, g, 0, 0, hops(hop(0, depart)), 1, depart+2, 1)
		} else {
			fails(t, depart, g, 0, 0, hops(hop(0, depart)), api.ErrForm)
		}
	}
	leaves(t, "other end", g, 0, 0, hops(hop(0, 1), hop(0, 2), hop(0, 3)))
}

// TestHorizon: one comes at the last time, and not at the horizon.
func TestHorizon(t *testing.T) {
	g := everAlive(9, 2, edge(0, 1, leg(0, 9, 5, 1)))
	comes(t, "the last", g, 0, 0, hops(hop(0, 3)), 1, 8, 1)
	fails(t, "the horizon", g, 0, 0, hops(hop(0, 4)), api.ErrForm)
	leaves(t, "horizon", g, 0, 2, hops(hop(0, 2), hop(0, 3)))
	leaves(t, "too late", g, 0, 4, nil)
}

// goRound is so many hops of the loop, one behind the other.
func goRound(n int) []api.Hop {
	l := make([]api.Hop, n)
	for i := range l {
		l[i] = hop(0, i)
	}
	return l
}

// TestLongJourneys: a journey has fewer hops than there are times; a list of as many hops as there may be is refused for what it is, one of more for its length.
func TestLongJourneys(t *testing.T) {
	comes(t, "99", loop(), 0, 0, goRound(99), 0, 99, 99*api.MaxCost)
	fails(t, "100", loop(), 0, 0, goRound(100), api.ErrForm)
	fails(t, "500", loop(), 0, 0, goRound(api.MaxHops), api.ErrForm)
	fails(t, "501", loop(), 0, 0, goRound(api.MaxHops+1), api.ErrLarge)
	fails(t, "1000", loop(), 0, 0, goRound(2*api.MaxHops), api.ErrLarge)
}

func TestOut(t *testing.T) {
	for i, c := range []struct {
		at, time int
		want     []api.Hop
	}{
		// By time, and of one time by edge.
		{0, 0, hops(hop(0, 0), hop(2, 0), hop(0, 1), hop(2, 1), hop(0, 2), hop(2, 2), hop(0, 3), hop(2, 3), hop(0, 4), hop(2, 4), hop(0, 5), hop(2, 5), hop(7, 5), hop(2, 6), hop(2, 7))},
		{0, 5, hops(hop(0, 5), hop(2, 5), hop(7, 5), hop(2, 6), hop(2, 7))},
		{0, 7, hops(hop(2, 7))},
		{0, 8, nil},
		{0, 9, nil},
		// A vertex has a life: ahead of it and behind it there is nothing, not even what leaves later.
		{1, 1, nil},
		{1, 2, hops(hop(1, 2), hop(1, 3), hop(1, 4), hop(1, 5), hop(1, 6), hop(1, 7))},
		{1, 7, hops(hop(1, 7))},
		{1, 8, nil},
		{3, 0, nil},
		{3, 4, nil},
		{3, 5, hops(hop(5, 5), hop(5, 6))},
		{3, 7, nil},
		// A loop, and an edge without legs.
		{2, 3, hops(hop(3, 3), hop(3, 4), hop(6, 4), hop(3, 5), hop(6, 5))},
		{2, 9, nil},
	} {
		leaves(t, i, town(), c.at, c.time, c.want)
	}
}

// wrongVertices are no numbers of vertices.
func wrongVertices(g api.Graph) []int {
	n := len(g.Lives)
	return []int{math.MinInt, -1, n, n + 1, math.MaxInt}
}

// wrongTimes are no times of a graph.
func wrongTimes(g api.Graph) []int {
	return []int{math.MinInt, -1, g.Horizon, g.Horizon + 1, math.MaxInt}
}

// someLists are no journeys, too long ones included, and the one that always is.
func someLists() [][]api.Hop {
	return [][]api.Hop{nil, hops(hop(-1, -1)), goRound(api.MaxHops), goRound(api.MaxHops + 1)}
}

// TestWrongGraphs: graph.Check's error is told first, whatever else is handed in.
func TestWrongGraphs(t *testing.T) {
	for i, g := range wrongGraphs() {
		want := graph.Check(g)
		if want == api.OK {
			t.Fatal(i, "a right graph")
		}
		for _, v := range append(wrongVertices(g), 0) {
			for _, time := range append(wrongTimes(g), 0) {
				for _, l := range someLists() {
					fails(t, i, g, v, time, l, want)
				}
				stays(t, i, g, v, time, want)
			}
		}
	}
}

// TestFromNowhere: what is no number of a vertex is told ahead of a wrong time, and of a wrong list.
func TestFromNowhere(t *testing.T) {
	for i, g := range rightGraphs() {
		for _, v := range wrongVertices(g) {
			for _, time := range append(wrongTimes(g), 0, g.Horizon-1) {
				for _, l := range someLists() {
					fails(t, i, g, v, time, l, api.ErrNone)
				}
				stays(t, i, g, v, time, api.ErrNone)
			}
		}
	}
}

// TestWrongTimes: a wrong time is told ahead of a wrong list.
func TestWrongTimes(t *testing.T) {
	for i, g := range rightGraphs() {
		for v := range g.Lives {
			for _, time := range wrongTimes(g) {
				for _, l := range someLists() {
					fails(t, i, g, v, time, l, api.ErrArg)
				}
				stays(t, i, g, v, time, api.ErrArg)
			}
		}
	}
}

// TestTooLong: a list that is too long is told ahead of a vertex that isn't there, and of a list that is no journey.
func TestTooLong(t *testing.T) {
	for i, g := range rightGraphs() {
		for v := range g.Lives {
			for time := range g.Horizon {
				fails(t, i, g, v, time, goRound(api.MaxHops+1), api.ErrLarge)
				fails(t, i, g, v, time, make([]api.Hop, api.MaxHops+1), api.ErrLarge)
				fails(t, i, g, v, time, make([]api.Hop, api.MaxHops), api.ErrForm)
			}
		}
	}
}
