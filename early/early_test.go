package early_test

import (
	"slices"
	"testing"

	"timeweft/api"
	"timeweft/early"
	"timeweft/graph"
	"timeweft/internal/probe"
	"timeweft/journey"
)

// What the tests of several packages have is short here.
var (
	span, edge                = probe.Span, probe.Edge
	living, everAlive         = probe.Living, probe.EverAlive
	town, chain               = probe.Town, probe.Chain
	rightGraphs, wrongGraphs  = probe.RightGraphs, probe.WrongGraphs
	wrongVertices, wrongTimes = probe.WrongVertices, probe.WrongTimes
	wild                      = probe.Wild
	spans, walks              = probe.Spans, probe.Walks
)

// leg is short for one leg; nothing here hangs on its cost.
func leg(from, to, time int) api.Leg {
	return api.Leg{From: from, To: to, Time: time, Cost: from}
}

// hop is short for one hop.
func hop(edge, depart int) api.Hop {
	return api.Hop{Edge: edge, Depart: depart}
}

// list is short for one list.
func list[T any](l ...T) []T {
	return l
}

// arrives reports an answer of Arrivals that isn't the one that is wanted.
func arrives(t *testing.T, what any, g api.Graph, from, start int, want []int) {
	t.Helper()
	if got, e := early.Arrivals(g, from, start); e != api.OK || !slices.Equal(got, want) {
		t.Error(what, from, start, got, e, "not", want)
	}
}

// departs reports an answer of Departures that isn't the one that is wanted.
func departs(t *testing.T, what any, g api.Graph, to, end int, want []int) {
	t.Helper()
	if got, e := early.Departures(g, to, end); e != api.OK || !slices.Equal(got, want) {
		t.Error(what, to, end, got, e, "not", want)
	}
}

// leads reports an answer of Way that doesn't come to its end at a time, or comes to a vertex twice.
func leads(t *testing.T, what any, g api.Graph, from, start, to, want int) {
	t.Helper()
	l, e := early.Way(g, from, start, to)
	at, time, _, f := journey.Go(g, from, start, l)
	if e != api.OK || f != api.OK || at != to || time != want {
		t.Error(what, from, start, to, l, e, "comes to", at, time, f, "not at", want)
		return
	}
	seen := make([]bool, len(g.Lives))
	seen[from] = true
	for _, h := range l {
		v := g.Edges[h.Edge].B
		if seen[v] {
			t.Error(what, from, start, to, l, "comes to a vertex twice", v)
		}
		seen[v] = true
	}
}

// noWay reports an answer of Way that isn't the error that is wanted, alone.
func noWay(t *testing.T, what any, g api.Graph, from, start, to int, want api.Errno) {
	t.Helper()
	if got, e := early.Way(g, from, start, to); e != want || got != nil {
		t.Error(what, from, start, to, got, e, "not", want)
	}
}

// refused reports an answer of any call that isn't the error that is wanted, alone.
func refused(t *testing.T, what any, g api.Graph, v, time int, want api.Errno) {
	t.Helper()
	if got, e := early.Arrivals(g, v, time); e != want || got != nil {
		t.Error(what, "Arrivals", v, time, got, e, "not", want)
	}
	if got, e := early.Departures(g, v, time); e != want || got != nil {
		t.Error(what, "Departures", v, time, got, e, "not", want)
	}
	for _, to := range append(wrongVertices(g), 0, len(g.Lives)-1, v) {
		noWay(t, what, g, v, time, to, want)
	}
}

// every is the same number of each vertex.
func every(n, vertices int) []int {
	return slices.Repeat(list(n), vertices)
}

// TestExample: the latest time to be there is 2.
func TestExample(t *testing.T) {
	g := everAlive(6, 2, edge(0, 1, leg(0, 3, 3)))
	departs(t, "example", g, 1, 5, list(2, 5))
	arrives(t, "example", g, 0, 2, list(2, 5))
	leads(t, "example", g, 0, 2, 1, 5)
}

func TestArrivals(t *testing.T) {
	for i, c := range []struct {
		from, start int
		want        []int
	}{
		{0, 0, list(0, 2, 1, api.Inf)},
		{0, 3, list(3, 4, 4, api.Inf)},
		{0, 5, list(5, 6, 6, api.Inf)},
		// One comes as a vertex is gone.
		{0, 6, list(6, api.Inf, 7, api.Inf)},
		{0, 7, list(7, api.Inf, 8, api.Inf)},
		{0, 8, list(8, api.Inf, api.Inf, api.Inf)},
		{0, 9, list(9, api.Inf, api.Inf, api.Inf)},
		// By way of others, waiting; no loop takes one back to an earlier time.
		{1, 2, list(5, 2, 3, api.Inf)},
		{2, 0, list(5, 6, 0, api.Inf)},
		{2, 5, list(6, api.Inf, 5, api.Inf)},
		{2, 6, list(api.Inf, api.Inf, 6, api.Inf)},
		{3, 5, list(api.Inf, api.Inf, 6, 5)},
		{3, 7, list(api.Inf, api.Inf, api.Inf, 7)},
		// Who isn't there at start comes nowhere, not even to itself, later.
		{1, 0, every(api.Inf, 4)},
		{1, 1, every(api.Inf, 4)},
		{1, 8, every(api.Inf, 4)},
		{2, 9, every(api.Inf, 4)},
		{3, 4, every(api.Inf, 4)},
	} {
		arrives(t, i, town(), c.from, c.start, c.want)
	}
}

func TestDepartures(t *testing.T) {
	for i, c := range []struct {
		to, end int
		want    []int
	}{
		{2, 8, list(7, 7, 8, 6)},
		{2, 7, list(6, 6, 7, 6)},
		{2, 6, list(5, 5, 6, 5)},
		// One would have to leave ahead of a vertex's life.
		{2, 5, list(4, 4, 5, -1)},
		{2, 2, list(1, -1, 2, -1)},
		// 0 is a time.
		{2, 1, list(0, -1, 1, -1)},
		{2, 0, list(-1, -1, 0, -1)},
		// By way of others, and to wait at the end; who is there sooner waits.
		{0, 9, list(9, 4, 5, -1)},
		{0, 5, list(5, 3, 4, -1)},
		{0, 4, list(4, -1, -1, -1)},
		{1, 7, list(5, 7, 4, -1)},
		{1, 2, list(0, 2, -1, -1)},
		{3, 9, list(-1, -1, -1, 9)},
		// Where one can't be at the end there is no time, though one might have been there sooner.
		{2, 9, every(-1, 4)},
		{1, 8, every(-1, 4)},
		{1, 1, every(-1, 4)},
		{3, 4, every(-1, 4)},
	} {
		departs(t, i, town(), c.to, c.end, c.want)
	}
}

// TestWaitingPays: who leaves later may come sooner, and who may leave later may come too late.
func TestWaitingPays(t *testing.T) {
	g := everAlive(20, 3, edge(0, 1, leg(0, 3, 9), leg(3, 4, 2), leg(4, 8, 6)), edge(1, 2, leg(5, 9, 4), leg(9, 10, 1)), edge(0, 2, leg(0, 1, 11)))
	arrives(t, "soon", g, 0, 0, list(0, 5, 9))
	arrives(t, "not at 0", g, 0, 1, list(1, 5, 9))
	arrives(t, "late", g, 0, 4, list(4, 10, api.Inf))
	departs(t, "soon", g, 2, 9, list(3, 5, 9))
	departs(t, "late", g, 2, 19, list(3, 9, 19))
	departs(t, "to the middle", g, 1, 12, list(6, 12, -1))
	departs(t, "to the middle, soon", g, 1, 9, list(3, 9, -1))
}

// TestMiddleIsGone: one can't wait where the vertex doesn't last, nor come to where it isn't yet.
func TestMiddleIsGone(t *testing.T) {
	on := []api.Edge{edge(0, 1, leg(0, 9, 2)), edge(1, 2, leg(6, 7, 1))}
	for _, c := range []struct {
		life              api.Ivl
		arrive, atTheLast int
	}{
		{span(0, 9), 7, 4},
		{span(6, 7), 7, 4},
		{span(4, 7), 7, 4},
		{span(0, 6), api.Inf, -1},
		{span(7, 9), api.Inf, -1},
	} {
		g := living(9, list(span(0, 9), c.life, span(0, 9)), on...)
		if l, e := early.Arrivals(g, 0, 0); e != api.OK || len(l) != 3 || l[1] != max(2, c.life.From) || l[2] != c.arrive {
			t.Error(c, l, e)
		}
		if l, e := early.Departures(g, 2, 8); e != api.OK || len(l) != 3 || l[0] != c.atTheLast {
			t.Error(c, l, e)
		}
	}
}

// TestHorizon: one comes at the last time, and not at the horizon.
func TestHorizon(t *testing.T) {
	g := everAlive(9, 2, edge(0, 1, leg(0, 9, 5)))
	arrives(t, "the last", g, 0, 3, list(3, 8))
	arrives(t, "the horizon", g, 0, 4, list(4, api.Inf))
	departs(t, "the last", g, 1, 8, list(3, 8))
	departs(t, "at 0", g, 1, 5, list(0, 5))
	departs(t, "ahead of 0", g, 1, 4, list(-1, 4))
}

// TestChains: each vertex takes as long again, in whatever order the edges stand in the list.
func TestChains(t *testing.T) {
	const pace = 7
	for _, backward := range []bool{false, true} {
		g := chain(backward)
		for v := range api.MaxVertices {
			soon, late := every(api.Inf, api.MaxVertices), every(-1, api.MaxVertices)
			for w := range api.MaxVertices {
				if w >= v {
					soon[w] = 3 + pace*(w-v)
					leads(t, backward, g, v, 3, w, soon[w])
				} else {
					noWay(t, backward, g, v, 3, w, api.ErrNone)
				}
				if w <= v {
					late[w] = 95 - pace*(v-w)
				}
			}
			arrives(t, backward, g, v, 3, soon)
			departs(t, backward, g, v, 95, late)
		}
	}
}

// TestWay: where there is one way alone that comes so soon, it is told.
func TestWay(t *testing.T) {
	for i, c := range []struct {
		from, start, to int
		want            []api.Hop
	}{
		{0, 0, 0, nil},
		{1, 7, 1, nil},
		{0, 0, 2, list(hop(2, 0))},
		{0, 5, 1, list(hop(0, 5))},
		{2, 0, 0, list(hop(6, 4))},
		{2, 1, 1, list(hop(6, 4), hop(0, 5))},
		{3, 5, 2, list(hop(5, 5))},
	} {
		if got, e := early.Way(town(), c.from, c.start, c.to); e != api.OK || !slices.Equal(got, c.want) {
			t.Error(i, got, e, "not", c.want)
		}
	}
}

// TestNoWay: there is none to where Arrivals tells Inf.
func TestNoWay(t *testing.T) {
	for i, c := range []struct{ from, start, to int }{
		{0, 0, 3}, {0, 6, 1}, {0, 9, 2}, {3, 5, 0},
		// Not even to itself, for who isn't there at start.
		{1, 1, 1}, {1, 8, 1}, {1, 1, 2}, {3, 4, 3}, {3, 4, 2},
	} {
		noWay(t, i, town(), c.from, c.start, c.to, api.ErrNone)
	}
}

// TestWrongGraphs: graph.Check's error is told first, whatever else is handed in.
func TestWrongGraphs(t *testing.T) {
	for i, g := range wrongGraphs() {
		want := graph.Check(g)
		if want == api.OK {
			t.Fatal(i, "a right graph")
		}
		for _, v := range append(wrongVertices(g), 0) {
			for _, time := range append(wrongTimes(g), 0) {
				refused(t, i, g, v, time, want)
			}
		}
	}
}

// TestFromNowhere: what is no number of a vertex is told ahead of a wrong time.
func TestFromNowhere(t *testing.T) {
	for i, g := range rightGraphs() {
		for _, v := range wrongVertices(g) {
			for _, time := range append(wrongTimes(g), 0, g.Horizon-1) {
				refused(t, i, g, v, time, api.ErrNone)
			}
		}
	}
}

// TestWrongTimes: a wrong time is told ahead of a wrong end of a way.
func TestWrongTimes(t *testing.T) {
	for i, g := range rightGraphs() {
		for v := range g.Lives {
			for _, time := range wrongTimes(g) {
				refused(t, i, g, v, time, api.ErrArg)
			}
		}
	}
}

// TestToNowhere: no way leads to what is no number of a vertex, whether one is there at start or not.
func TestToNowhere(t *testing.T) {
	for i, g := range rightGraphs() {
		for v := range g.Lives {
			for time := range g.Horizon {
				for _, to := range wrongVertices(g) {
					noWay(t, i, g, v, time, to, api.ErrNone)
				}
			}
		}
	}
}
