package journey_test

import (
	"math"
	"slices"
	"testing"

	"timeweft/api"
	"timeweft/graph"
	"timeweft/internal/probe"
	"timeweft/journey"
)

// TestGraphsAreLeft: no call changes its graph, nor reads or writes the room behind its lists.
func TestGraphsAreLeft(t *testing.T) {
	for i, g := range append(rightGraphs(), wrongGraphs()...) {
		roomy := probe.RoomyGraph(g)
		was := probe.WholeGraph(roomy)
		for v := range len(g.Lives) + 1 {
			for time := range g.Horizon + 1 {
				want, e := journey.Out(g, v, time)
				if got, f := journey.Out(roomy, v, time); e != f || !slices.Equal(got, want) {
					t.Error(i, v, time, "Out reads the room", got, want)
				}
				for _, l := range [][]api.Hop{nil, want[:min(len(want), 1)], hops(hop(len(g.Edges), time))} {
					at, u, cost, e := journey.Go(g, v, time, l)
					if a, w, c, f := journey.Go(roomy, v, time, l); a != at || w != u || c != cost || f != e {
						t.Error(i, v, time, l, "Go reads the room", a, w, c, f, at, u, cost, e)
					}
				}
			}
		}
		if !probe.SameGraph(probe.WholeGraph(roomy), was) {
			t.Error(i, "what was handed in is changed")
		}
	}
}

// TestHopsAreLeft: Go changes neither its list nor what stands behind it, and goes no further than the list.
func TestHopsAreLeft(t *testing.T) {
	for _, l := range [][]api.Hop{nil, hops(hop(0, 3)), hops(hop(0, 3), hop(1, 4)), hops(hop(0, 6), hop(1, 4)), hops(hop(9, 9))} {
		roomy := probe.Roomy(l, hop(3, 6))
		was := slices.Clone(probe.Whole(roomy))
		at, time, cost, e := journey.Go(town(), 0, 1, l)
		for range 2 {
			if a, u, c, f := journey.Go(town(), 0, 1, roomy); a != at || u != time || c != cost || f != e {
				t.Error(l, "another answer", a, u, c, f, at, time, cost, e)
			}
		}
		if !slices.Equal(probe.Whole(roomy), was) {
			t.Error(l, "what was handed in is changed")
		}
	}
}

// TestHopsAreNew: what Out answers is the caller's alone, and the next answer to the same is the same.
func TestHopsAreNew(t *testing.T) {
	for i, right := range rightGraphs() {
		for v := range right.Lives {
			g := probe.RoomyGraph(right)
			first, e := journey.Out(g, v, right.Horizon/2)
			want := slices.Clone(first)
			probe.Spoil(first, hop(77, 78))
			second, f := journey.Out(g, v, right.Horizon/2)
			probe.SpoilGraph(g)
			probe.Spoil(first, hop(78, 79))
			if e != f || !slices.Equal(second, want) {
				t.Error(i, v, "another answer the second time, or a shared one", second, f, want, e)
			}
		}
	}
}

// wild numbers, and some that aren't.
func wild() []int {
	return []int{math.MinInt, math.MinInt + 1, -1, 0, 1, 2, 3, 1001, 1 << 32, math.MaxInt - 1, math.MaxInt}
}

// TestWildGraphs: whatever stands in a graph each call answers, and with something only beside OK.
func TestWildGraphs(t *testing.T) {
	for _, x := range wild() {
		for _, y := range wild() {
			for _, z := range wild() {
				for _, g := range []api.Graph{
					{Horizon: x, Lives: []api.Ivl{span(0, 2), span(y, z)}},
					everAlive(3, 2, edge(x, y, leg(0, z, 1, 1))),
					everAlive(3, 2, edge(0, 1, leg(x, y, 1, z))),
					everAlive(3, 2, edge(0, 1, leg(0, x, y, z))),
				} {
					if e := graph.Check(g); e != api.OK {
						fails(t, g, g, 0, 0, hops(hop(0, 0)), e)
						stays(t, g, g, 0, 0, e)
					} else {
						comes(t, g, g, 0, 0, nil, 0, 0, 0)
						holdOut(t, g, rides(g), 0, 0)
					}
				}
			}
		}
	}
}

// TestWildNumbers: whatever is asked of a graph each call answers, and with something only beside OK.
func TestWildNumbers(t *testing.T) {
	g := town()
	all := rides(g)
	for _, v := range wild() {
		for _, time := range wild() {
			want := api.OK
			if v < 0 || v >= len(g.Lives) {
				want = api.ErrNone
			} else if time < 0 || time >= g.Horizon {
				want = api.ErrArg
			}
			if want != api.OK {
				stays(t, "wild", g, v, time, want)
			} else {
				holdOut(t, g, all, v, time)
			}
			for _, edge := range wild() {
				for _, depart := range wild() {
					if want != api.OK {
						fails(t, "wild", g, v, time, hops(hop(edge, depart)), want)
					} else {
						holdGo(t, g, all, v, time, hops(hop(edge, depart)))
					}
				}
			}
		}
	}
}
