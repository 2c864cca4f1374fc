package early_test

import (
	"slices"
	"testing"

	"timeweft/api"
	"timeweft/early"
	"timeweft/graph"
	"timeweft/internal/probe"
)

// answer is what all calls answer of a graph, a vertex and a time.
type answer struct {
	arrivals, departures []int
	ways                 [][]api.Hop
	errors               []api.Errno
}

// ask calls each call, for ways to each vertex and to one that isn't there.
func ask(g api.Graph, v, time int) answer {
	var a answer
	var e, f api.Errno
	a.arrivals, e = early.Arrivals(g, v, time)
	a.departures, f = early.Departures(g, v, time)
	a.errors = list(e, f)
	for to := range len(g.Lives) + 1 {
		l, e := early.Way(g, v, time, to)
		a.ways, a.errors = append(a.ways, l), append(a.errors, e)
	}
	return a
}

// same takes no list and an empty one for the same.
func (a answer) same(b answer) bool {
	return slices.Equal(a.arrivals, b.arrivals) && slices.Equal(a.departures, b.departures) &&
		slices.EqualFunc(a.ways, b.ways, slices.Equal) && slices.Equal(a.errors, b.errors)
}

// copied shares nothing with its answer.
func (a answer) copied() answer {
	b := answer{arrivals: slices.Clone(a.arrivals), departures: slices.Clone(a.departures), errors: a.errors}
	for _, l := range a.ways {
		b.ways = append(b.ways, slices.Clone(l))
	}
	return b
}

// spoil writes over each list, and the room behind it.
func (a answer) spoil() {
	probe.Spoil(a.arrivals, -77)
	probe.Spoil(a.departures, -78)
	for _, l := range a.ways {
		probe.Spoil(l, hop(77, 78))
	}
}

// TestGraphsAreLeft: no call changes its graph, nor reads or writes the room behind its lists.
func TestGraphsAreLeft(t *testing.T) {
	for i, g := range append(rightGraphs(), wrongGraphs()...) {
		roomy := probe.RoomyGraph(g)
		was := probe.WholeGraph(roomy)
		for v := range len(g.Lives) + 1 {
			for _, time := range list(-1, 0, 1, g.Horizon/2, g.Horizon-1, g.Horizon) {
				if got, want := ask(roomy, v, time), ask(g, v, time); !got.same(want) {
					t.Error(i, v, time, "the room is read", got, want)
				}
			}
		}
		if !probe.SameGraph(probe.WholeGraph(roomy), was) {
			t.Error(i, "what was handed in is changed")
		}
	}
}

// TestListsAreNew: what is answered is the caller's alone, and the next answer to the same is the same.
func TestListsAreNew(t *testing.T) {
	for i, right := range rightGraphs() {
		for v := range right.Lives {
			g := probe.RoomyGraph(right)
			first := ask(g, v, right.Horizon/2)
			want := first.copied()
			first.spoil()
			second := ask(g, v, right.Horizon/2)
			probe.SpoilGraph(g)
			first.spoil()
			if !second.same(want) {
				t.Error(i, v, "another answer the second time, or a shared one", second, want)
			}
		}
	}
}

// TestWildGraphs: whatever stands in a graph each call answers, and with something only beside OK.
func TestWildGraphs(t *testing.T) {
	for _, x := range wild() {
		for _, y := range wild() {
			for _, z := range wild() {
				for _, g := range []api.Graph{
					living(x, list(span(0, 2), span(y, z))),
					everAlive(3, 2, edge(x, y, leg(0, z, 1))),
					everAlive(3, 2, edge(0, 1, leg(x, y, z))),
					everAlive(3, 2, edge(0, 1, leg(0, x, y), leg(z, 3, 1))),
				} {
					if e := graph.Check(g); e != api.OK {
						refused(t, g, g, 0, 0, e)
					} else {
						holdAll(t, g)
					}
				}
			}
		}
	}
}

// TestWildNumbers: whatever is asked of a graph each call answers, and with something only beside OK.
func TestWildNumbers(t *testing.T) {
	g := town()
	all := walks(g)
	for _, v := range wild() {
		for _, time := range wild() {
			switch {
			case v < 0 || v >= len(g.Lives):
				refused(t, "wild", g, v, time, api.ErrNone)
			case time < 0 || time >= g.Horizon:
				refused(t, "wild", g, v, time, api.ErrArg)
			default:
				holdFrom(t, g, all, v, time)
				departs(t, "wild", g, v, time, last(all, v, time))
				for _, to := range wild() {
					if to < 0 || to >= len(g.Lives) {
						noWay(t, "wild", g, v, time, to, api.ErrNone)
					}
				}
			}
		}
	}
}
