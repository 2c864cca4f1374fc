package profile_test

import (
	"slices"
	"testing"

	"timeweft/api"
	"timeweft/graph"
	"timeweft/imap"
	"timeweft/internal/probe"
	"timeweft/profile"
)

// What the tests of several packages have is short here.
var (
	span, leg, edge           = probe.Span, probe.Leg, probe.Edge
	living, everAlive         = probe.Living, probe.EverAlive
	town, chain, ring         = probe.Town, probe.Chain, probe.Ring
	rightGraphs, wrongGraphs  = probe.RightGraphs, probe.WrongGraphs
	wrongVertices, wrongTimes = probe.WrongVertices, probe.WrongTimes
	wild, spans, oneLeg       = probe.Wild, probe.Spans, probe.OneLeg
)

// piece is short for one piece.
func piece(from, to, value int) api.Piece {
	return api.Piece{From: from, To: to, Value: value}
}

// list is short for one list.
func list[T any](l ...T) []T {
	return l
}

// later tells at each time from one to another, that left out, the time that is some later: a piece for each.
func later(from, to, by int) []api.Piece {
	var m []api.Piece
	for t := from; t < to; t++ {
		m = append(m, piece(t, t+1, t+by))
	}
	return m
}

// tells reports an answer of Of that isn't the map that is wanted, or no map.
func tells(t *testing.T, what any, g api.Graph, from, to int, want []api.Piece) {
	t.Helper()
	got, e := profile.Of(g, from, to)
	if e != api.OK || !slices.Equal(got, want) || imap.Check(got) != api.OK {
		t.Error(what, from, to, got, e, "not", want)
	}
}

// reaches reports an answer of Reach that isn't the one that is wanted.
func reaches(t *testing.T, what any, g api.Graph, start, end int, want [][]bool) {
	t.Helper()
	if got, e := profile.Reach(g, start, end); e != api.OK || !slices.EqualFunc(got, want, slices.Equal) {
		t.Error(what, start, end, got, e, "not", want)
	}
}

// noMap reports an answer of Of that isn't the error that is wanted, alone.
func noMap(t *testing.T, what any, g api.Graph, from, to int, want api.Errno) {
	t.Helper()
	if got, e := profile.Of(g, from, to); e != want || got != nil {
		t.Error(what, from, to, got, e, "not", want)
	}
}

// noReach reports an answer of Reach that isn't the error that is wanted, alone.
func noReach(t *testing.T, what any, g api.Graph, start, end int, want api.Errno) {
	t.Helper()
	if got, e := profile.Reach(g, start, end); e != want || got != nil {
		t.Error(what, start, end, got, e, "not", want)
	}
}

// TestExample: from 0 and 1 one comes at 4.
func TestExample(t *testing.T) {
	g := everAlive(6, 2, edge(0, 1, leg(1, 2, 3, 0)))
	tells(t, "example", g, 0, 1, list(piece(0, 2, 4)))
	reaches(t, "in time", g, 1, 4, [][]bool{{true, true}, {false, true}})
	reaches(t, "too early an end", g, 1, 3, [][]bool{{true, false}, {false, true}})
	reaches(t, "too late a start", g, 2, 5, [][]bool{{true, false}, {false, true}})
}

func TestOf(t *testing.T) {
	for i, c := range []struct {
		from, to int
		want     []api.Piece
	}{
		// From 2 and 3 one comes at the same time; from 6 on too late.
		{0, 1, list(piece(0, 1, 2), piece(1, 2, 3), piece(2, 4, 4), piece(4, 5, 5), piece(5, 6, 6))},
		{0, 2, later(0, 8, 1)},
		// Who is there early waits, or goes on by way of others.
		{2, 0, list(piece(0, 5, 5), piece(5, 6, 6))},
		{2, 1, list(piece(0, 5, 6))},
		{1, 0, list(piece(2, 4, 5), piece(4, 5, 6))},
		// What is told begins and ends with a life.
		{1, 2, later(2, 8, 1)},
		{3, 2, later(5, 7, 1)},
		// To itself one comes at once, at all times of its life.
		{0, 0, later(0, 10, 0)},
		{1, 1, later(2, 8, 0)},
		{2, 2, later(0, 9, 0)},
		{3, 3, later(5, 10, 0)},
		// Nothing is told where there is no journey.
		{0, 3, nil}, {1, 3, nil}, {2, 3, nil}, {3, 0, nil}, {3, 1, nil},
	} {
		tells(t, i, town(), c.from, c.to, c.want)
	}
}

func TestReach(t *testing.T) {
	const in, no = true, false
	for i, c := range []struct {
		start, end int
		want       [][]bool
	}{
		// Of who isn't there at start nothing is true, though the vertex comes later.
		{0, 0, [][]bool{{in, no, no, no}, {no, no, no, no}, {no, no, in, no}, {no, no, no, no}}},
		{0, 1, [][]bool{{in, no, in, no}, {no, no, no, no}, {no, no, in, no}, {no, no, no, no}}},
		{0, 2, [][]bool{{in, in, in, no}, {no, no, no, no}, {no, no, in, no}, {no, no, no, no}}},
		{0, 5, [][]bool{{in, in, in, no}, {no, no, no, no}, {in, no, in, no}, {no, no, no, no}}},
		{0, 6, [][]bool{{in, in, in, no}, {no, no, no, no}, {in, in, in, no}, {no, no, no, no}}},
		{5, 5, [][]bool{{in, no, no, no}, {no, in, no, no}, {no, no, in, no}, {no, no, no, in}}},
		{5, 6, [][]bool{{in, in, in, no}, {no, in, in, no}, {in, no, in, no}, {no, no, in, in}}},
		// Or earlier: where one came is gone at the end.
		{5, 9, [][]bool{{in, in, in, no}, {no, in, in, no}, {in, no, in, no}, {no, no, in, in}}},
		{7, 9, [][]bool{{in, no, in, no}, {no, in, in, no}, {no, no, in, no}, {no, no, no, in}}},
		{8, 9, [][]bool{{in, no, no, no}, {no, no, no, no}, {no, no, in, no}, {no, no, no, in}}},
		{9, 9, [][]bool{{in, no, no, no}, {no, no, no, no}, {no, no, no, no}, {no, no, no, in}}},
		// Nobody is anywhere ahead of the start, not even where one is then.
		{5, 4, nowhere(4)},
		{9, 0, nowhere(4)},
	} {
		reaches(t, i, town(), c.start, c.end, c.want)
	}
}

// nowhere is true of no two vertices.
func nowhere(vertices int) [][]bool {
	l := make([][]bool, vertices)
	for v := range l {
		l[v] = make([]bool, vertices)
	}
	return l
}

// TestWaitingPays: who leaves later comes sooner, so that times ahead of a quick leg are one piece.
func TestWaitingPays(t *testing.T) {
	g := everAlive(20, 3, edge(0, 1, leg(0, 3, 9, 0), leg(3, 4, 2, 0), leg(4, 8, 6, 0)), edge(1, 2, leg(5, 9, 4, 0), leg(9, 10, 1, 0)), edge(0, 2, leg(0, 1, 11, 0)))
	tells(t, "straight on", g, 0, 1, append(list(piece(0, 4, 5)), later(4, 8, 6)...))
	tells(t, "by way of another", g, 0, 2, list(piece(0, 4, 9)))
	tells(t, "the second half", g, 1, 2, list(piece(0, 6, 9), piece(6, 10, 10)))
}

// TestSlowerStraightOn: a ride that leaves sooner, but comes later than another one, isn't what is told.
func TestSlowerStraightOn(t *testing.T) {
	g := everAlive(30, 3, edge(0, 2, leg(2, 3, 20, 0)), edge(0, 1, leg(4, 5, 1, 0)), edge(1, 2, leg(7, 8, 3, 0)))
	tells(t, "all", g, 0, 2, list(piece(0, 5, 10)))
	g.Edges[1].Legs[0].From = 1
	g.Edges[1].Legs[0].To = 2
	tells(t, "the quicker one leaves sooner", g, 0, 2, list(piece(0, 2, 10), piece(2, 3, 22)))
}

// TestMiddleIsGone: one can't wait where the vertex doesn't last, nor come to where it isn't yet.
func TestMiddleIsGone(t *testing.T) {
	on := list(edge(0, 1, leg(0, 9, 2, 0)), edge(1, 2, leg(6, 7, 1, 0)))
	for _, c := range []struct {
		life api.Ivl
		want []api.Piece
	}{
		{span(0, 9), list(piece(0, 5, 7))},
		{span(6, 7), list(piece(0, 5, 7))},
		{span(4, 7), list(piece(0, 5, 7))},
		{span(0, 6), nil},
		{span(7, 9), nil},
	} {
		g := living(9, list(span(0, 9), c.life, span(0, 9)), on...)
		tells(t, c.life, g, 0, 2, c.want)
		if l, e := profile.Reach(g, 4, 7); e != api.OK || len(l) != 3 || l[0][2] != (c.want != nil) {
			t.Error(c.life, l, e)
		}
	}
}

// TestHorizon: one comes at the last time, and not at the horizon.
func TestHorizon(t *testing.T) {
	g := everAlive(9, 2, edge(0, 1, leg(0, 9, 5, 0)))
	tells(t, "all", g, 0, 1, later(0, 4, 5))
	reaches(t, "the last", g, 3, 8, [][]bool{{true, true}, {false, true}})
	reaches(t, "the horizon", g, 4, 8, [][]bool{{true, false}, {false, true}})
}

// TestChains: each vertex takes as long again, in whatever order the edges stand in the list; there are as many pieces as there may be times.
func TestChains(t *testing.T) {
	const pace = 7
	for _, backward := range list(false, true) {
		g := chain(backward)
		for v := range api.MaxVertices {
			for w := range api.MaxVertices {
				var want []api.Piece
				if w >= v {
					want = later(0, api.MaxHorizon-pace*(w-v), pace*(w-v))
				}
				tells(t, backward, g, v, w, want)
			}
		}
		for hops := range api.MaxVertices {
			want := nowhere(api.MaxVertices)
			for v := range want {
				for w := v; w <= min(v+hops, api.MaxVertices-1); w++ {
					want[v][w] = true
				}
			}
			reaches(t, backward, g, 9, 9+pace*hops, want)
			reaches(t, backward, g, 9, 9+pace*hops+pace-1, want)
		}
	}
}

// TestWrongGraphs: graph.Check's error is told first, whatever else is handed in.
func TestWrongGraphs(t *testing.T) {
	for i, g := range wrongGraphs() {
		want := graph.Check(g)
		if want == api.OK {
			t.Fatal(i, "a right graph")
		}
		for _, v := range append(wrongVertices(g), 0) {
			for _, w := range append(wrongVertices(g), 0) {
				noMap(t, i, g, v, w, want)
			}
		}
		for _, start := range append(wrongTimes(g), 0) {
			for _, end := range append(wrongTimes(g), 0) {
				noReach(t, i, g, start, end, want)
			}
		}
	}
}

// TestNowhere: what is no number of a vertex is refused, at either end.
func TestNowhere(t *testing.T) {
	for i, g := range rightGraphs() {
		for _, wrong := range wrongVertices(g) {
			for v := range g.Lives {
				noMap(t, i, g, v, wrong, api.ErrNone)
				noMap(t, i, g, wrong, v, api.ErrNone)
			}
			for _, other := range wrongVertices(g) {
				noMap(t, i, g, wrong, other, api.ErrNone)
			}
		}
	}
}

// TestWrongTimes: what is no time of the graph is refused as start or end, even if there is no vertex.
func TestWrongTimes(t *testing.T) {
	for i, g := range rightGraphs() {
		for _, wrong := range wrongTimes(g) {
			for _, other := range append(wrongTimes(g), 0, g.Horizon-1) {
				noReach(t, i, g, wrong, other, api.ErrArg)
				noReach(t, i, g, other, wrong, api.ErrArg)
			}
		}
	}
}

// TestNoVertices: who is nowhere reaches nothing, which is no error.
func TestNoVertices(t *testing.T) {
	reaches(t, "none", api.Graph{Horizon: 3}, 0, 2, nil)
	noMap(t, "none", api.Graph{Horizon: 3}, 0, 0, api.ErrNone)
}
