package graph_test

import (
	"math"
	"slices"
	"testing"

	"timeweft/api"
	"timeweft/graph"
	"timeweft/internal/probe"
)

// someGraphs are right and wrong ones.
func someGraphs() []api.Graph {
	all := rightGraphs()
	for _, c := range wrongGraphs() {
		all = append(all, c.g)
	}
	return all
}

// TestGraphsAreLeft: no call changes its graph, nor the room behind its lists.
func TestGraphsAreLeft(t *testing.T) {
	for i, g := range someGraphs() {
		g = probe.RoomyGraph(g)
		was := probe.WholeGraph(g)
		graph.Check(g)
		graph.Print(g)
		for at := -1; at <= 12; at++ {
			graph.At(g, at)
		}
		if !probe.SameGraph(probe.WholeGraph(g), was) {
			t.Error(i, "what was handed in is changed")
		}
	}
}

// TestRoomIsNotRead: what stands behind a list changes no answer.
func TestRoomIsNotRead(t *testing.T) {
	for i, g := range someGraphs() {
		roomy := probe.RoomyGraph(g)
		if graph.Check(g) != graph.Check(roomy) {
			t.Error(i, "Check")
		}
		s, _ := graph.Print(g)
		if u, _ := graph.Print(roomy); u != s {
			t.Error(i, u, s)
		}
	}
}

// TestSnapshotsAreNew: a snapshot is the caller's alone, and the next one of the same graph is the same.
func TestSnapshotsAreNew(t *testing.T) {
	for i, g := range rightGraphs() {
		g = probe.RoomyGraph(g)
		was := probe.WholeGraph(g)
		first, _ := graph.At(g, 0)
		alive, arcs := slices.Clone(first.Alive), slices.Clone(first.Arcs)
		second, e := graph.At(g, 0)
		for j := range probe.Whole(first.Alive) {
			probe.Whole(first.Alive)[j] = j >= len(alive) || !alive[j]
		}
		probe.Spoil(first.Arcs, api.Arc{A: 77, B: 78, Cost: 79})
		if !probe.SameGraph(probe.WholeGraph(g), was) {
			t.Error(i, "what was handed in is shared")
		}
		probe.SpoilGraph(g)
		expectSnapshot(t, i, second, alive, arcs, e)
	}
}

// TestParsedGraphsAreNew: a graph that is read is the caller's alone, and so is each of its lists.
func TestParsedGraphsAreNew(t *testing.T) {
	for i, g := range rightGraphs() {
		s, _ := graph.Print(g)
		first, _, _ := graph.Parse(s)
		second, _, e := graph.Parse(s)
		if !probe.LegsApart(first) {
			t.Error(i, "two edges share their legs")
		}
		probe.SpoilGraph(first)
		if e != api.OK || !probe.SameGraph(second, g) {
			t.Error(i, "another answer the second time", second, e)
		}
	}
}

// TestWildNumbers: whatever stands in a graph each call answers, and with something only beside OK.
func TestWildNumbers(t *testing.T) {
	wild := []int{math.MinInt, math.MinInt + 1, -1, 0, 1, 1 << 32, math.MaxInt - 1, math.MaxInt}
	try := func(g api.Graph) {
		t.Helper()
		e := graph.Check(g)
		if s, f := graph.Print(g); f != e || (s == "") != (e != api.OK) {
			t.Error(g, s, e, f)
		}
		for _, at := range wild {
			if got, f := graph.At(g, at); f != api.OK && (got.Alive != nil || got.Arcs != nil) || e != api.OK && f != e {
				t.Error(g, at, got, e, f)
			}
		}
	}
	for _, x := range wild {
		for _, y := range wild {
			try(api.Graph{Horizon: x, Lives: []api.Ivl{span(y, x)}})
			try(with(town(), func(g *api.Graph) { g.Lives[1] = span(x, y) }))
			try(with(town(), func(g *api.Graph) { g.Edges[1].A, g.Edges[1].B = x, y }))
			try(with(town(), func(g *api.Graph) { g.Edges[0].Legs[1] = leg(x, y, 1, 1) }))
			try(with(town(), func(g *api.Graph) { g.Edges[0].Legs[1] = leg(3, 6, x, y) }))
		}
	}
}
