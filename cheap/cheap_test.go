package cheap_test

import (
	"slices"
	"testing"

	"timeweft/api"
	"timeweft/cheap"
	"timeweft/graph"
	"timeweft/internal/probe"
	"timeweft/journey"
)

// What the tests of several packages have is short here.
var (
	span, leg, edge           = probe.Span, probe.Leg, probe.Edge
	living, everAlive         = probe.Living, probe.EverAlive
	town, chain, ring, free   = probe.Town, probe.Chain, probe.Ring, probe.Free
	rightGraphs, wrongGraphs  = probe.RightGraphs, probe.WrongGraphs
	wrongVertices, wrongTimes = probe.WrongVertices, probe.WrongTimes
	wild                      = probe.Wild
	spans, oneLeg, lives      = probe.Spans, probe.OneLeg, probe.Lives
)

// hop is short for one hop.
func hop(edge, depart int) api.Hop {
	return api.Hop{Edge: edge, Depart: depart}
}

// list is short for one list.
func list[T any](l ...T) []T {
	return l
}

// every tells the same of each vertex.
func every(n, vertices int) []int {
	return slices.Repeat(list(n), vertices)
}

// pays reports an answer of Costs that isn't the one that is wanted.
func pays(t *testing.T, what any, g api.Graph, from, start int, want []int) {
	t.Helper()
	if got, e := cheap.Costs(g, from, start); e != api.OK || !slices.Equal(got, want) {
		t.Error(what, from, start, "costs", got, e, "not", want)
	}
}

// changes reports an answer of Hops that isn't the one that is wanted.
func changes(t *testing.T, what any, g api.Graph, from, start int, want []int) {
	t.Helper()
	if got, e := cheap.Hops(g, from, start); e != api.OK || !slices.Equal(got, want) {
		t.Error(what, from, start, "hops", got, e, "not", want)
	}
}

// takes reports an answer of Fastest that isn't the one that is wanted.
func takes(t *testing.T, what any, g api.Graph, from, to, want, wantAt int) {
	t.Helper()
	if d, at, e := cheap.Fastest(g, from, to); e != api.OK || d != want || at != wantAt {
		t.Error(what, from, to, d, at, e, "not", want, wantAt)
	}
}

// never reports an answer of Fastest that isn't the error that is wanted, alone.
func never(t *testing.T, what any, g api.Graph, from, to int, want api.Errno) {
	t.Helper()
	if d, at, e := cheap.Fastest(g, from, to); e != want || d != 0 || at != 0 {
		t.Error(what, from, to, d, at, e, "not", want)
	}
}

// leads reports an answer of Way that doesn't come to its end, or costs something else.
func leads(t *testing.T, what any, g api.Graph, from, start, to, want int) {
	t.Helper()
	l, e := cheap.Way(g, from, start, to)
	if e != api.OK {
		t.Error(what, from, start, to, l, e)
		return
	}
	if at, _, cost, e := journey.Go(g, from, start, l); e != api.OK || at != to || cost != want {
		t.Error(what, from, start, to, l, at, cost, e, "not", want)
	}
}

// noWay reports an answer of Way that isn't the error that is wanted, alone.
func noWay(t *testing.T, what any, g api.Graph, from, start, to int, want api.Errno) {
	t.Helper()
	if l, e := cheap.Way(g, from, start, to); e != want || l != nil {
		t.Error(what, from, start, to, l, e, "not", want)
	}
}

// refused reports an answer of Costs, Hops or Way that isn't the error that is wanted, alone, wherever the way is to lead.
func refused(t *testing.T, what any, g api.Graph, from, start int, want api.Errno) {
	t.Helper()
	if l, e := cheap.Costs(g, from, start); e != want || l != nil {
		t.Error(what, from, start, "costs", l, e, "not", want)
	}
	if l, e := cheap.Hops(g, from, start); e != want || l != nil {
		t.Error(what, from, start, "hops", l, e, "not", want)
	}
	for _, to := range append(wrongVertices(g), 0) {
		noWay(t, what, g, from, start, to, want)
	}
}

// TestExample: who waits pays less.
func TestExample(t *testing.T) {
	g := everAlive(9, 2, edge(0, 1, leg(0, 4, 1, 7), leg(4, 5, 3, 2), leg(5, 7, 1, 3)))
	pays(t, "from the beginning", g, 0, 0, list(0, 2))
	pays(t, "too late for the cheapest", g, 0, 5, list(0, 3))
	pays(t, "too late", g, 0, 7, list(0, api.Inf))
	leads(t, "from the beginning", g, 0, 0, 1, 2)
	changes(t, "from the beginning", g, 0, 0, list(0, 1))
	takes(t, "at any time", g, 0, 1, 1, 0)
}

func TestCosts(t *testing.T) {
	for i, c := range []struct {
		from, start int
		want        []int
	}{
		// Waiting for a cheaper leg, by way of another vertex for less than straight on.
		{0, 0, list(0, 1, 3, api.Inf)},
		{0, 5, list(0, 1, 3, api.Inf)},
		// Too late for that.
		{0, 6, list(0, api.Inf, 4, api.Inf)},
		{0, 7, list(0, api.Inf, 4, api.Inf)},
		{0, 8, list(0, api.Inf, api.Inf, api.Inf)},
		{0, 9, list(0, api.Inf, api.Inf, api.Inf)},
		// A ride that costs nothing, and on from there.
		{2, 0, list(0, 1, 0, api.Inf)},
		{2, 5, list(0, api.Inf, 0, api.Inf)},
		{2, 6, list(api.Inf, api.Inf, 0, api.Inf)},
		{1, 2, list(2, 0, 2, api.Inf)},
		{1, 5, list(api.Inf, 0, 2, api.Inf)},
		// The dearer leg is the first.
		{3, 5, list(api.Inf, api.Inf, 1, 0)},
		{3, 7, list(api.Inf, api.Inf, api.Inf, 0)},
		// Who isn't there at start comes nowhere, not even to itself, later.
		{1, 1, every(api.Inf, 4)},
		{1, 8, every(api.Inf, 4)},
		{2, 9, every(api.Inf, 4)},
		{3, 4, every(api.Inf, 4)},
	} {
		pays(t, i, town(), c.from, c.start, c.want)
	}
}

func TestHops(t *testing.T) {
	for i, c := range []struct {
		from, start int
		want        []int
	}{
		{0, 0, list(0, 1, 1, api.Inf)},
		{0, 5, list(0, 1, 1, api.Inf)},
		{0, 6, list(0, api.Inf, 1, api.Inf)},
		{0, 8, list(0, api.Inf, api.Inf, api.Inf)},
		{2, 0, list(1, 2, 0, api.Inf)},
		{2, 5, list(1, api.Inf, 0, api.Inf)},
		{1, 2, list(2, 0, 1, api.Inf)},
		{3, 5, list(api.Inf, api.Inf, 1, 0)},
		{1, 1, every(api.Inf, 4)},
		{1, 8, every(api.Inf, 4)},
		{3, 4, every(api.Inf, 4)},
	} {
		changes(t, i, town(), c.from, c.start, c.want)
	}
}

func TestFastest(t *testing.T) {
	for i, c := range []struct{ from, to, want, at int }{
		// To itself in no time, at the first at which it is there.
		{0, 0, 0, 0}, {1, 1, 0, 2}, {2, 2, 0, 0}, {3, 3, 0, 5},
		// Not at the first time at which one can go.
		{0, 1, 1, 3}, {0, 2, 1, 0}, {1, 2, 1, 2},
		{2, 0, 1, 4}, {3, 2, 1, 5},
		// By way of others, with waiting in between.
		{1, 0, 2, 3}, {2, 1, 2, 4},
	} {
		takes(t, i, town(), c.from, c.to, c.want, c.at)
	}
	for i, c := range []struct{ from, to int }{{0, 3}, {1, 3}, {2, 3}, {3, 0}, {3, 1}} {
		never(t, i, town(), c.from, c.to, api.ErrNone)
	}
}

// TestSoonerForMore: the cheapest to one vertex isn't on the way of the cheapest to the next.
func TestSoonerForMore(t *testing.T) {
	g := everAlive(20, 3, edge(0, 1, leg(0, 1, 2, 50), leg(5, 6, 2, 1)), edge(1, 2, leg(3, 4, 1, 3), leg(8, 9, 1, 90)))
	pays(t, "all", g, 0, 0, list(0, 1, 53))
	changes(t, "all", g, 0, 0, list(0, 1, 2))
	for to, want := range list(0, 1, 53) {
		leads(t, "all", g, 0, 0, to, want)
	}
	pays(t, "late", g, 0, 1, list(0, 1, 91))
	takes(t, "fast", g, 0, 2, 4, 0)
}

// TestHopsAgainstCosts: the fewest hops cost more, take longer, and the cheapest are many.
func TestHopsAgainstCosts(t *testing.T) {
	g := everAlive(30, 4, edge(0, 3, leg(0, 9, 20, 900)), edge(0, 1, leg(2, 30, 1, 1)), edge(1, 2, leg(2, 30, 1, 1)), edge(2, 3, leg(2, 30, 1, 1)))
	pays(t, "all", g, 0, 0, list(0, 1, 2, 3))
	changes(t, "all", g, 0, 0, list(0, 1, 2, 1))
	changes(t, "late", g, 0, 9, list(0, 1, 2, 3))
	takes(t, "all", g, 0, 3, 3, 2)
	leads(t, "all", g, 0, 0, 3, 3)
}

// TestFewestByWaiting: who goes at once needs more hops than who waits.
func TestFewestByWaiting(t *testing.T) {
	g := everAlive(30, 3, edge(0, 1, leg(0, 2, 1, 1)), edge(1, 2, leg(0, 9, 1, 1)), edge(0, 2, leg(25, 26, 4, 5)))
	changes(t, "all", g, 0, 0, list(0, 1, 1))
	pays(t, "all", g, 0, 0, list(0, 1, 2))
	takes(t, "all", g, 0, 2, 2, 0)
}

// TestFastestByWaiting: the time one waits at the way's beginning doesn't count, that in between does.
func TestFastestByWaiting(t *testing.T) {
	g := everAlive(40, 3, edge(0, 1, leg(3, 12, 2, 0)), edge(1, 2, leg(20, 21, 5, 0)), edge(0, 2, leg(30, 32, 16, 0)))
	takes(t, "in between", g, 0, 2, 14, 11)
	takes(t, "none", g, 0, 1, 2, 3)
	g.Edges[2].Legs[0].Time = 7
	takes(t, "later", g, 0, 2, 7, 30)
}

// TestMiddleIsGone: one can't wait where the vertex doesn't last, nor come to where it isn't yet.
func TestMiddleIsGone(t *testing.T) {
	on := list(edge(0, 1, leg(0, 9, 2, 3)), edge(1, 2, leg(6, 7, 1, 4)))
	for _, life := range list(span(0, 9), span(6, 7), span(4, 7)) {
		g := living(9, list(span(0, 9), life, span(0, 9)), on...)
		pays(t, life, g, 0, 0, list(0, 3, 7))
		changes(t, life, g, 0, 0, list(0, 1, 2))
		takes(t, life, g, 0, 2, 3, 4)
		leads(t, life, g, 0, 0, 2, 7)
	}
	for _, life := range list(span(0, 6), span(7, 9)) {
		g := living(9, list(span(0, 9), life, span(0, 9)), on...)
		pays(t, life, g, 0, 0, list(0, 3, api.Inf))
		changes(t, life, g, 0, 0, list(0, 1, api.Inf))
		never(t, life, g, 0, 2, api.ErrNone)
		noWay(t, life, g, 0, 0, 2, api.ErrNone)
	}
}

// TestHorizon: one comes at the last time, and not at the horizon.
func TestHorizon(t *testing.T) {
	g := everAlive(9, 2, edge(0, 1, leg(0, 9, 5, 6)))
	pays(t, "the last", g, 0, 3, list(0, 6))
	pays(t, "the horizon", g, 0, 4, list(0, api.Inf))
	changes(t, "the last", g, 0, 3, list(0, 1))
	changes(t, "the horizon", g, 0, 4, list(0, api.Inf))
	leads(t, "the last", g, 0, 3, 1, 6)
	noWay(t, "the horizon", g, 0, 4, 1, api.ErrNone)
	late := everAlive(9, 2, edge(0, 1, leg(3, 9, 5, 6)))
	takes(t, "the last", late, 0, 1, 5, 3)
	late.Edges[0].Legs[0].From = 4
	never(t, "the horizon", late, 0, 1, api.ErrNone)
}

// TestChains: each vertex is a hop more, and dearer by the same, in whatever order the edges stand in the list.
func TestChains(t *testing.T) {
	for _, backward := range list(false, true) {
		g := chain(backward)
		for v := range api.MaxVertices {
			costs, hops := every(api.Inf, api.MaxVertices), every(api.Inf, api.MaxVertices)
			for w := range api.MaxVertices {
				if w < v {
					noWay(t, backward, g, v, 3, w, api.ErrNone)
					never(t, backward, g, v, w, api.ErrNone)
					continue
				}
				hops[w], costs[w] = w-v, api.MaxCost*(w-v)
				leads(t, backward, g, v, 3, w, costs[w])
				takes(t, backward, g, v, w, 7*(w-v), 0)
			}
			pays(t, backward, g, v, 3, costs)
			changes(t, backward, g, v, 3, hops)
		}
	}
}

// TestWay: where there is one way alone that costs so little, it is told; and where rides cost nothing, none that leads round.
func TestWay(t *testing.T) {
	for i, c := range []struct {
		g               api.Graph
		from, start, to int
		want            []api.Hop
	}{
		{town(), 0, 0, 0, nil},
		{town(), 1, 7, 1, nil},
		{town(), 2, 0, 2, nil},
		{town(), 0, 5, 1, list(hop(0, 5))},
		{town(), 0, 7, 2, list(hop(2, 7))},
		{town(), 2, 0, 1, list(hop(6, 4), hop(0, 5))},
		{town(), 3, 5, 2, list(hop(5, 6))},
		{free(), 0, 0, 0, nil},
		{free(), 1, 0, 1, nil},
	} {
		if got, e := cheap.Way(c.g, c.from, c.start, c.to); e != api.OK || !slices.Equal(got, c.want) {
			t.Error(i, got, e, "not", c.want)
		}
	}
	if l, e := cheap.Way(free(), 0, 0, 2); e != api.OK || len(l) != 2 {
		t.Error(l, e)
	}
}

// TestNoWay: there is none to where Costs tells Inf.
func TestNoWay(t *testing.T) {
	for i, c := range []struct{ from, start, to int }{
		{0, 0, 3}, {0, 6, 1}, {0, 9, 2}, {3, 5, 0},
		// Not even to itself, for who isn't there at start.
		{1, 1, 1}, {1, 8, 1}, {1, 1, 2}, {3, 4, 3}, {3, 4, 2},
	} {
		noWay(t, i, town(), c.from, c.start, c.to, api.ErrNone)
	}
}

// TestWrongGraphs: graph.Check's error is told first, whatever else is handed in.
func TestWrongGraphs(t *testing.T) {
	for i, g := range wrongGraphs() {
		want := graph.Check(g)
		if want == api.OK {
			t.Fatal(i, "a right graph")
		}
		for _, v := range append(wrongVertices(g), 0) {
			for _, time := range append(wrongTimes(g), 0) {
				refused(t, i, g, v, time, want)
			}
			for _, to := range append(wrongVertices(g), 0) {
				never(t, i, g, v, to, want)
			}
		}
	}
}

// TestFromNowhere: what is no number of a vertex is told ahead of a wrong time.
func TestFromNowhere(t *testing.T) {
	for i, g := range rightGraphs() {
		for _, v := range wrongVertices(g) {
			for _, time := range append(wrongTimes(g), 0, g.Horizon-1) {
				refused(t, i, g, v, time, api.ErrNone)
			}
			for _, to := range append(wrongVertices(g), 0) {
				never(t, i, g, v, to, api.ErrNone)
				never(t, i, g, to, v, api.ErrNone)
			}
		}
	}
}

// TestWrongTimes: a wrong time is told ahead of a wrong end of a way.
func TestWrongTimes(t *testing.T) {
	for i, g := range rightGraphs() {
		for v := range g.Lives {
			for _, time := range wrongTimes(g) {
				refused(t, i, g, v, time, api.ErrArg)
			}
		}
	}
}

// TestToNowhere: no way leads to what is no number of a vertex, whether one is there at start or not.
func TestToNowhere(t *testing.T) {
	for i, g := range rightGraphs() {
		for v := range g.Lives {
			for time := range g.Horizon {
				for _, to := range wrongVertices(g) {
					noWay(t, i, g, v, time, to, api.ErrNone)
				}
			}
		}
	}
}
