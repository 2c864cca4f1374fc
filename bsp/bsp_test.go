package bsp_test

import (
	"math"
	"slices"
	"testing"

	"timeweft/api"
	"timeweft/bsp"
	"timeweft/graph"
	"timeweft/imap"
	"timeweft/internal/probe"
)

// span is short for one life.
func span(from, to int) api.Ivl {
	return api.Ivl{From: from, To: to}
}

// leg is short for one leg.
func leg(from, to, time, cost int) api.Leg {
	return api.Leg{From: from, To: to, Time: time, Cost: cost}
}

// edge is short for one edge.
func edge(a, b int, legs ...api.Leg) api.Edge {
	return api.Edge{A: a, B: b, Legs: legs}
}

// piece is short for one piece.
func piece(from, to, value int) api.Piece {
	return api.Piece{From: from, To: to, Value: value}
}

// row has a map for each vertex.
func row(maps ...[]api.Piece) [][]api.Piece {
	return maps
}

// some is short for one map.
func some(pieces ...api.Piece) []api.Piece {
	return pieces
}

// everAlive has a number of vertices that are there always.
func everAlive(horizon, vertices int, edges ...api.Edge) api.Graph {
	return api.Graph{Horizon: horizon, Lives: slices.Repeat([]api.Ivl{span(0, horizon)}, vertices), Edges: edges}
}

// town has a way round that is cheaper than the straight one at some times, vertices that come later and go earlier than others, legs beyond the lives of their ends, legs that touch, an edge without legs, a loop, two edges between the same vertices, and a circle.
func town() api.Graph {
	return api.Graph{Horizon: 10, Lives: []api.Ivl{span(0, 10), span(2, 8), span(0, 9), span(5, 10)}, Edges: []api.Edge{
		edge(0, 1, leg(0, 3, 2, 5), leg(3, 6, 1, 1), leg(7, 10, 50, 1000)),
		edge(1, 2, leg(1, 9, 1, 2)),
		edge(0, 2, leg(0, 10, 1, 4)),
		edge(2, 2, leg(0, 9, 3, 0)),
		edge(2, 3),
		edge(3, 2, leg(0, 7, 1, 1)),
		edge(2, 0, leg(4, 6, 1, 0)),
		edge(0, 1, leg(5, 9, 4, 3)),
	}}
}

// chain has as many vertices as there may be, each with an edge to the next one, and as great a cost; backward the edges stand in the list against their way.
func chain(backward bool) api.Graph {
	g := everAlive(api.MaxHorizon, api.MaxVertices)
	for v := range api.MaxVertices - 1 {
		g.Edges = append(g.Edges, edge(v, v+1, leg(v, api.MaxHorizon-v, 1, api.MaxCost)))
	}
	if backward {
		slices.Reverse(g.Edges)
	}
	return g
}

// crowd has as many edges, each with as many legs, as there may be, and all of them come to one vertex.
func crowd() api.Graph {
	g := everAlive(api.MaxHorizon, api.MaxVertices)
	for i := range api.MaxEdges {
		e := edge(i%(api.MaxVertices-1)+1, 0)
		for l := range api.MaxLegs {
			from := (i%5+l*3)*4 + i%3
			e.Legs = append(e.Legs, leg(from, from+2+i%9, 1, (i*7+l*13)%50))
		}
		g.Edges = append(g.Edges, e)
	}
	return g
}

// many tells vertex 1 another number at each time of 90, and that by as many edges as are left to vertex 2: it hears more in one round than a list of messages has room for.
func many() api.Graph {
	const toOne = 15
	g := everAlive(api.MaxHorizon, 3)
	for i := range toOne {
		e := edge(0, 1)
		for l := range api.MaxLegs {
			at := l*toOne + i
			e.Legs = append(e.Legs, leg(at, at+1, 1, at*7%100))
		}
		g.Edges = append(g.Edges, e)
	}
	for i := range api.MaxEdges - toOne {
		g.Edges = append(g.Edges, edge(1, 2, leg(i, api.MaxHorizon-i, 1, api.MaxCost-i)))
	}
	return g
}

func rightGraphs() []api.Graph {
	return []api.Graph{
		{Horizon: 1},
		{Horizon: api.MaxHorizon, Lives: []api.Ivl{}, Edges: []api.Edge{}},
		everAlive(1, 1), everAlive(1, 1, edge(0, 0, leg(0, 1, 1, 0))), everAlive(5, api.MaxVertices),
		{Horizon: 3, Lives: []api.Ivl{span(0, 1), span(1, 3)}, Edges: []api.Edge{edge(0, 1, leg(0, 3, 1, 1))}},
		town(), chain(false), chain(true), crowd(), many(),
	}
}

// expect reports an answer that isn't the one that is wanted.
func expect(t *testing.T, what any, got, want [][]api.Piece, rounds, wantRounds int, e api.Errno) {
	t.Helper()
	if e != api.OK || rounds != wantRounds || !slices.EqualFunc(got, want, slices.Equal) {
		t.Error(what, got, rounds, e, "not", want, wantRounds)
	}
}

// refused reports an answer that isn't the error that is wanted, alone.
func refused(t *testing.T, what any, got [][]api.Piece, rounds int, e, want api.Errno) {
	t.Helper()
	if e != want || got != nil || rounds != 0 {
		t.Error(what, got, rounds, e, want)
	}
}

func TestRun(t *testing.T) {
	edge01 := everAlive(6, 2, edge(0, 1, leg(2, 4, 3, 7)))
	early := api.Graph{Horizon: 6, Lives: []api.Ivl{span(1, 5), span(0, 4)}, Edges: []api.Edge{edge(0, 1, leg(0, 6, 1, 9))}}
	for i, c := range []struct {
		g             api.Graph
		program, from int
		want          [][]api.Piece
		rounds        int
	}{
		// An edge from 2 to 4 is told from 2 to 4.
		{edge01, api.PHops, 0, row(some(piece(0, 6, 0)), some(piece(2, 4, 1))), 1},
		{edge01, api.PCosts, 0, row(some(piece(0, 6, 0)), some(piece(2, 4, 7))), 1},
		{edge01, api.PLabels, 0, row(some(piece(0, 6, 0)), some(piece(0, 2, 1), piece(2, 4, 0), piece(4, 6, 1))), 1},
		// Against the edge labels go alone.
		{edge01, api.PHops, 1, row(nil, some(piece(0, 6, 0))), 0},
		{edge01, api.PCosts, 1, row(nil, some(piece(0, 6, 0))), 0},
		{edge01, api.PLabels, 1, row(some(piece(0, 6, 0)), some(piece(0, 2, 1), piece(2, 4, 0), piece(4, 6, 1))), 1},
		// A vertex is told something at the times of its life alone.
		{early, api.PHops, 0, row(some(piece(1, 5, 0)), some(piece(1, 4, 1))), 1},
		{early, api.PCosts, 0, row(some(piece(1, 5, 0)), some(piece(1, 4, 9))), 1},
		{early, api.PHops, 1, row(nil, some(piece(0, 4, 0))), 0},
		{early, api.PLabels, 0, row(some(piece(1, 5, 0)), some(piece(0, 1, 1), piece(1, 4, 0))), 1},
		// Legs that touch are one piece where they tell the same.
		{everAlive(6, 2, edge(0, 1, leg(1, 3, 1, 4), leg(3, 5, 2, 4))), api.PCosts, 0, row(some(piece(0, 6, 0)), some(piece(1, 5, 4))), 1},
		{everAlive(6, 2, edge(0, 1, leg(1, 3, 1, 4), leg(3, 5, 2, 5))), api.PCosts, 0, row(some(piece(0, 6, 0)), some(piece(1, 3, 4), piece(3, 5, 5))), 1},
		{everAlive(6, 2, edge(0, 1, leg(1, 3, 1, 4), leg(3, 5, 2, 5))), api.PHops, 0, row(some(piece(0, 6, 0)), some(piece(1, 5, 1))), 1},
		// No vertex, no edge, a loop.
		{api.Graph{Horizon: 5}, api.PLabels, 0, nil, 0},
		{everAlive(5, 2), api.PHops, 1, row(nil, some(piece(0, 5, 0))), 0},
		{everAlive(5, 2), api.PLabels, 0, row(some(piece(0, 5, 0)), some(piece(0, 5, 1))), 0},
		{everAlive(5, 1, edge(0, 0, leg(0, 5, 1, 0))), api.PHops, 0, row(some(piece(0, 5, 0))), 0},
		{everAlive(5, 1, edge(0, 0, leg(0, 5, 1, 0))), api.PCosts, 0, row(some(piece(0, 5, 0))), 0},
		{everAlive(5, 1, edge(0, 0, leg(0, 5, 1, 0))), api.PLabels, 0, row(some(piece(0, 5, 0))), 0},
	} {
		got, rounds, e := bsp.Run(c.g, c.program, c.from)
		expect(t, i, got, c.want, rounds, c.rounds, e)
		got, rounds, e = bsp.Combined(c.g, c.program, c.from, 3)
		expect(t, i, got, c.want, rounds, c.rounds, e)
	}
}

func TestTown(t *testing.T) {
	for i, c := range []struct {
		program, from int
		want          [][]api.Piece
		rounds        int
	}{
		{api.PHops, 0, row(some(piece(0, 10, 0)), some(piece(2, 8, 1)), some(piece(0, 9, 1)), nil), 1},
		{api.PCosts, 0, row(some(piece(0, 10, 0)),
			some(piece(2, 3, 5), piece(3, 6, 1), piece(6, 8, 3)),
			some(piece(0, 3, 4), piece(3, 6, 3), piece(6, 9, 4)), nil), 2},
		{api.PHops, 3, row(some(piece(5, 6, 2)), some(piece(5, 6, 3)), some(piece(5, 7, 1)), some(piece(5, 10, 0))), 3},
		{api.PCosts, 3, row(some(piece(5, 6, 1)), some(piece(5, 6, 2)), some(piece(5, 7, 1)), some(piece(5, 10, 0))), 3},
		{api.PLabels, 0, row(some(piece(0, 10, 0)), some(piece(2, 8, 0)), some(piece(0, 9, 0)), some(piece(5, 7, 0), piece(7, 10, 3))), 2},
	} {
		got, rounds, e := bsp.Run(town(), c.program, c.from)
		expect(t, i, got, c.want, rounds, c.rounds, e)
	}
}

// TestRoundsOfALongWay: a way of some edges takes as many rounds, in whatever order the edges stand in the list and the vertices are gone through.
func TestRoundsOfALongWay(t *testing.T) {
	for _, backward := range []bool{false, true} {
		for from := range api.MaxVertices {
			hops, costs := make([][]api.Piece, api.MaxVertices), make([][]api.Piece, api.MaxVertices)
			hops[from], costs[from] = some(piece(0, api.MaxHorizon, 0)), some(piece(0, api.MaxHorizon, 0))
			for v := from + 1; v < api.MaxVertices; v++ {
				hops[v] = some(piece(v-1, api.MaxHorizon-v+1, v-from))
				costs[v] = some(piece(v-1, api.MaxHorizon-v+1, (v-from)*api.MaxCost))
			}
			got, rounds, e := bsp.Run(chain(backward), api.PHops, from)
			expect(t, from, got, hops, rounds, api.MaxVertices-1-from, e)
			got, rounds, e = bsp.Run(chain(backward), api.PCosts, from)
			expect(t, from, got, costs, rounds, api.MaxVertices-1-from, e)
		}
		if _, rounds, e := bsp.Run(chain(backward), api.PLabels, 0); e != api.OK || rounds != api.MaxVertices-1 {
			t.Error(rounds, e)
		}
	}
}

// TestRoundsAreOfAllTimes: rounds at other times aren't added, the greatest number of them is told; and a later round may tell less than a former one.
func TestRoundsAreOfAllTimes(t *testing.T) {
	g := everAlive(9, 4,
		edge(0, 3, leg(0, 9, 1, 100)),
		edge(0, 1, leg(0, 6, 1, 1)),
		edge(1, 3, leg(0, 3, 1, 1)),
		edge(1, 2, leg(3, 6, 1, 1)),
		edge(2, 3, leg(3, 6, 1, 1)))
	got, rounds, e := bsp.Run(g, api.PCosts, 0)
	expect(t, "costs", got, row(some(piece(0, 9, 0)), some(piece(0, 6, 1)), some(piece(3, 6, 2)), some(piece(0, 3, 2), piece(3, 6, 3), piece(6, 9, 100))), rounds, 3, e)
	got, rounds, e = bsp.Run(g, api.PHops, 0)
	expect(t, "hops", got, row(some(piece(0, 9, 0)), some(piece(0, 6, 1)), some(piece(3, 6, 2)), some(piece(0, 9, 1))), rounds, 2, e)
}

// TestSameIsNotLess: who is told again what was told before tells nothing on, so no round is counted for it.
func TestSameIsNotLess(t *testing.T) {
	g := everAlive(4, 3,
		edge(0, 1, leg(0, 4, 1, 0)), edge(1, 0, leg(0, 4, 1, 0)),
		edge(0, 2, leg(0, 4, 1, 0)), edge(1, 2, leg(0, 4, 1, 0)), edge(2, 1, leg(0, 4, 1, 0)))
	zero := some(piece(0, 4, 0))
	got, rounds, e := bsp.Run(g, api.PCosts, 0)
	expect(t, "costs", got, row(zero, zero, zero), rounds, 1, e)
}

// TestManyMessages: a vertex may hear more than a list of messages has room for.
func TestManyMessages(t *testing.T) {
	holdAll(t, crowd())
	holdAll(t, many())
	if got, _, _ := bsp.Run(many(), api.PCosts, 0); len(got[1]) != 90 || len(got[2]) != 90 {
		t.Error("too few pieces to ask for what is meant", got)
	}
}

// TestMapsAreMaps: each is one that imap takes, so that no two pieces could be one.
func TestMapsAreMaps(t *testing.T) {
	for i, g := range rightGraphs() {
		for program := api.PHops; program <= api.PLabels; program++ {
			for from := range g.Lives {
				got, _, e := bsp.Run(g, program, from)
				if e != api.OK || len(got) != len(g.Lives) {
					t.Error(i, program, from, got, e)
				}
				for v, m := range got {
					if e := imap.Check(m); e != api.OK {
						t.Error(i, program, from, v, m, e)
					}
				}
			}
		}
	}
}

// TestEachNumberOfWorkers: the same is told by any number of them, also by more than there are vertices.
func TestEachNumberOfWorkers(t *testing.T) {
	for i, g := range rightGraphs() {
		for program := api.PHops; program <= api.PLabels; program++ {
			want, wantRounds, _ := bsp.Run(g, program, 0)
			for workers := 1; workers <= 64 && len(g.Lives) > 0; workers++ {
				got, rounds, e := bsp.Combined(g, program, 0, workers)
				expect(t, []int{i, program, workers}, got, want, rounds, wantRounds, e)
			}
		}
	}
}

// wrong numbers of each kind.
func wrongPrograms() []int { return []int{math.MinInt, -1, 0, 4, 5, math.MaxInt} }

func wrongWorkers() []int { return []int{math.MinInt, -1, 0, 65, 66, math.MaxInt} }

func wrongFroms(g api.Graph) []int {
	n := len(g.Lives)
	return []int{math.MinInt, -1, n, n + 1, math.MaxInt}
}

// TestFromNowhere: what is no number of a vertex is refused, but where labels are asked for.
func TestFromNowhere(t *testing.T) {
	for i, g := range rightGraphs() {
		want, wantRounds, _ := bsp.Run(g, api.PLabels, 0)
		for _, from := range wrongFroms(g) {
			for _, program := range []int{api.PHops, api.PCosts} {
				got, rounds, e := bsp.Run(g, program, from)
				refused(t, i, got, rounds, e, api.ErrNone)
				got, rounds, e = bsp.Combined(g, program, from, 64)
				refused(t, i, got, rounds, e, api.ErrNone)
			}
			got, rounds, e := bsp.Run(g, api.PLabels, from)
			expect(t, i, got, want, rounds, wantRounds, e)
			got, rounds, e = bsp.Combined(g, api.PLabels, from, 64)
			expect(t, i, got, want, rounds, wantRounds, e)
		}
	}
}

// TestWrongPrograms: a wrong program is told ahead of a vertex that isn't there, and of a wrong number of workers.
func TestWrongPrograms(t *testing.T) {
	for i, g := range rightGraphs() {
		for _, from := range append(wrongFroms(g), 0) {
			for _, program := range wrongPrograms() {
				got, rounds, e := bsp.Run(g, program, from)
				refused(t, i, got, rounds, e, api.ErrArg)
				for _, workers := range append(wrongWorkers(), 1, 64) {
					got, rounds, e = bsp.Combined(g, program, from, workers)
					refused(t, i, got, rounds, e, api.ErrArg)
				}
			}
		}
	}
}

// TestWrongWorkers: a wrong number of workers is told only where Run has no error: a vertex that isn't there is told ahead of it.
func TestWrongWorkers(t *testing.T) {
	for i, g := range rightGraphs() {
		froms := wrongFroms(g)
		for v := range g.Lives {
			froms = append(froms, v)
		}
		for program := api.PHops; program <= api.PLabels; program++ {
			for _, from := range froms {
				want := api.ErrArg
				if program != api.PLabels && (from < 0 || from >= len(g.Lives)) {
					want = api.ErrNone
				}
				for _, workers := range wrongWorkers() {
					got, rounds, e := bsp.Combined(g, program, from, workers)
					refused(t, i, got, rounds, e, want)
				}
			}
		}
	}
}

// wrongGraphs has one graph for each error of graph.Check, and some more.
func wrongGraphs() []api.Graph {
	change := func(do func(g *api.Graph)) api.Graph {
		g := probe.CopyGraph(town())
		do(&g)
		return g
	}
	return []api.Graph{
		{},
		change(func(g *api.Graph) { g.Horizon = api.MaxHorizon + 1 }),
		change(func(g *api.Graph) { g.Lives = slices.Repeat(g.Lives, 4) }),
		change(func(g *api.Graph) { g.Edges = slices.Repeat(g.Edges, 4) }),
		change(func(g *api.Graph) { g.Lives[3].To = 11 }),
		change(func(g *api.Graph) { g.Edges[7].A = 4 }),
		change(func(g *api.Graph) { g.Edges[7].B = -1 }),
		change(func(g *api.Graph) { g.Edges[7].Legs = slices.Repeat(g.Edges[7].Legs, api.MaxLegs+1) }),
		change(func(g *api.Graph) { g.Edges[7].Legs[0].Cost = -1 }),
		change(func(g *api.Graph) { g.Edges[0].Legs[1].From = 2 }),
	}
}

// TestWrongGraphs: graph.Check's error is told first, whatever else is handed in.
func TestWrongGraphs(t *testing.T) {
	for i, g := range wrongGraphs() {
		want := graph.Check(g)
		if want == api.OK {
			t.Fatal(i, "a right graph")
		}
		for _, program := range append(wrongPrograms(), api.PHops, api.PCosts, api.PLabels) {
			for _, from := range append(wrongFroms(g), 0) {
				got, rounds, e := bsp.Run(g, program, from)
				refused(t, i, got, rounds, e, want)
				for _, workers := range append(wrongWorkers(), 1, 64) {
					got, rounds, e = bsp.Combined(g, program, from, workers)
					refused(t, i, got, rounds, e, want)
				}
			}
		}
	}
}
