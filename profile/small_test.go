package profile_test

import (
	"math/rand"
	"testing"

	"timeweft/api"
	"timeweft/early"
	"timeweft/internal/probe"
)

// mapOf is the one list for what is told at each time from 0 on; Inf is nothing.
func mapOf(told []int) []api.Piece {
	var m []api.Piece
	for t, value := range told {
		last := len(m) - 1
		switch {
		case value == api.Inf:
		case t > 0 && told[t-1] == value:
			m[last].To = t + 1
		default:
			m = append(m, piece(t, t+1, value))
		}
	}
	return m
}

// firsts has of each vertex, at each time, of each vertex when one can be there first.
func firsts(g api.Graph) [][][]int {
	all := make([][][]int, len(g.Lives))
	for v, walks := range probe.Walks(g) {
		for _, here := range walks {
			all[v] = append(all[v], here.First(len(g.Lives)))
		}
	}
	return all
}

// holdMaps asks for the maps of all vertices to all vertices.
func holdMaps(t *testing.T, g api.Graph, all [][][]int) {
	t.Helper()
	for from := range all {
		for to := range all {
			var told []int
			for _, first := range all[from] {
				told = append(told, first[to])
			}
			tells(t, g, g, from, to, mapOf(told))
		}
	}
}

// holdReach asks who can be where between two times.
func holdReach(t *testing.T, g api.Graph, all [][][]int, start, end int) {
	t.Helper()
	want := nowhere(len(g.Lives))
	for v := range want {
		for w := range want[v] {
			want[v][w] = all[v][start][w] <= end
		}
	}
	reaches(t, g, g, start, end, want)
}

// holdAll asks all that can be asked of a graph.
func holdAll(t *testing.T, g api.Graph) {
	t.Helper()
	all := firsts(g)
	holdMaps(t, g, all)
	for start := range g.Horizon {
		for end := range g.Horizon {
			holdReach(t, g, all, start, end)
		}
	}
}

// holdSome asks for all maps, but who can be where at some times alone.
func holdSome(t *testing.T, g api.Graph, r *rand.Rand) {
	t.Helper()
	all := firsts(g)
	holdMaps(t, g, all)
	for range 3 {
		start := r.Intn(g.Horizon)
		for _, end := range list(r.Intn(start+1), start, start+r.Intn(g.Horizon-start), g.Horizon-1) {
			holdReach(t, g, all, start, end)
		}
	}
}

func TestRightGraphs(t *testing.T) {
	r := rand.New(rand.NewSource(7))
	for _, g := range rightGraphs() {
		if g.Horizon <= 12 {
			holdAll(t, g)
		} else {
			holdSome(t, g, r)
		}
	}
}

// TestAsArrivals: at each time the map tells what early.Arrivals does.
func TestAsArrivals(t *testing.T) {
	for _, g := range list(town(), ring(), probe.Free()) {
		for from := range g.Lives {
			told := make([][]int, len(g.Lives))
			for at := range g.Horizon {
				l, e := early.Arrivals(g, from, at)
				if e != api.OK {
					t.Fatal(g, from, at, e)
				}
				for to, time := range l {
					told[to] = append(told[to], time)
				}
			}
			for to := range told {
				tells(t, g, g, from, to, mapOf(told[to]))
			}
		}
	}
}

// TestSmallPairs: all lives of two vertices within three times, an edge of any leg from the one to the other, and a second edge of any ends.
func TestSmallPairs(t *testing.T) {
	const horizon = 3
	second := list(
		edge(1, 0, leg(0, 3, 1, 0)), edge(1, 0, leg(0, 1, 2, 0), leg(1, 3, 1, 0)), edge(1, 1, leg(0, 3, 1, 0)),
		edge(0, 0, leg(0, 2, 1, 0)), edge(0, 1, leg(1, 2, 1, 0)))
	for _, x := range spans(horizon) {
		for _, y := range spans(horizon) {
			for _, e := range oneLeg(0, 1, horizon, 0) {
				for _, other := range second {
					holdAll(t, living(horizon, list(x, y), e, other))
				}
			}
		}
	}
}

// TestSmallWays: a way of two edges of any leg each, by way of a vertex of any life, and with a third edge straight on or back.
func TestSmallWays(t *testing.T) {
	const horizon = 3
	ever := span(0, horizon)
	for _, life := range spans(horizon) {
		for _, e := range oneLeg(0, 1, horizon, 0) {
			for _, f := range oneLeg(1, 2, horizon, 0) {
				for _, third := range list(edge(0, 2, leg(1, 2, 1, 0)), edge(1, 0, leg(0, 3, 1, 0))) {
					holdAll(t, living(horizon, list(ever, life, ever), f, third, e))
				}
			}
		}
	}
}

// TestTwoLegs: all legs that one edge can have two of within four times, one of them quicker than the other or not, on the way to a third vertex.
func TestTwoLegs(t *testing.T) {
	const horizon = 5
	for _, x := range oneLeg(0, 1, 4, 0) {
		for _, y := range oneLeg(0, 1, 4, 0) {
			if x.Legs[0].To <= y.Legs[0].From {
				e := edge(0, 1, x.Legs[0], y.Legs[0])
				holdAll(t, everAlive(horizon, 3, e, edge(1, 2, leg(0, 2, 2, 0), leg(2, 5, 1, 0))))
			}
		}
	}
}

// TestGreatGraphs: up to as much of everything as there may be; the same ones each time.
func TestGreatGraphs(t *testing.T) {
	r := rand.New(rand.NewSource(10))
	for range 150 {
		holdSome(t, probe.SomeGraph(r.Intn), r)
	}
}
