package cheap_test

import (
	"slices"
	"testing"

	"timeweft/api"
	"timeweft/cheap"
	"timeweft/graph"
	"timeweft/internal/probe"
)

// answer is what all calls answer of a graph, a vertex and a time.
type answer struct {
	costs, hops []int
	fastest     []int
	ways        [][]api.Hop
	errors      []api.Errno
}

// ask calls each call, to each vertex and to one that isn't there.
func ask(g api.Graph, v, time int) answer {
	var a answer
	var e, f api.Errno
	a.costs, e = cheap.Costs(g, v, time)
	a.hops, f = cheap.Hops(g, v, time)
	a.errors = list(e, f)
	for to := range len(g.Lives) + 1 {
		d, at, e := cheap.Fastest(g, v, to)
		l, f := cheap.Way(g, v, time, to)
		a.fastest, a.ways, a.errors = append(a.fastest, d, at), append(a.ways, l), append(a.errors, e, f)
	}
	return a
}

// same takes no list and an empty one for the same.
func (a answer) same(b answer) bool {
	return slices.Equal(a.costs, b.costs) && slices.Equal(a.hops, b.hops) && slices.Equal(a.fastest, b.fastest) &&
		slices.EqualFunc(a.ways, b.ways, slices.Equal) && slices.Equal(a.errors, b.errors)
}

// copied shares nothing with its answer that a call told.
func (a answer) copied() answer {
	b := answer{costs: slices.Clone(a.costs), hops: slices.Clone(a.hops), fastest: a.fastest, errors: a.errors}
	for _, l := range a.ways {
		b.ways = append(b.ways, slices.Clone(l))
	}
	return b
}

// spoil writes over each list that a call told, and the room behind it.
func (a answer) spoil() {
	probe.Spoil(a.costs, -77)
	probe.Spoil(a.hops, -78)
	for _, l := range a.ways {
		probe.Spoil(l, hop(77, 78))
	}
}

// TestGraphsAreLeft: no call changes its graph, nor reads or writes the room behind its lists.
func TestGraphsAreLeft(t *testing.T) {
	for i, g := range append(rightGraphs(), wrongGraphs()...) {
		roomy := probe.RoomyGraph(g)
		was := probe.WholeGraph(roomy)
		for _, v := range list(-1, 0, len(g.Lives)/2, len(g.Lives)-1, len(g.Lives)) {
			for _, time := range list(-1, 0, g.Horizon/2, g.Horizon) {
				if got, want := ask(roomy, v, time), ask(g, v, time); !got.same(want) {
					t.Error(i, v, time, "the room is read", got, want)
				}
			}
		}
		if !probe.SameGraph(probe.WholeGraph(roomy), was) {
			t.Error(i, "what was handed in is changed")
		}
	}
}

// TestListsAreNew: what is answered is the caller's alone, and the next answer to the same is the same.
func TestListsAreNew(t *testing.T) {
	for i, right := range rightGraphs() {
		for v := range right.Lives {
			g := probe.RoomyGraph(right)
			first := ask(g, v, right.Horizon/2)
			want := first.copied()
			first.spoil()
			second := ask(g, v, right.Horizon/2)
			probe.SpoilGraph(g)
			first.spoil()
			if !second.same(want) {
				t.Error(i, v, "another answer the second time, or a shared one", second, want)
			}
		}
	}
}

// TestWildGraphs: whatever stands in a graph each call answers, and with something only beside OK.
func TestWildGraphs(t *testing.T) {
	for _, x := range wild() {
		for _, y := range wild() {
			for _, z := range wild() {
				for _, g := range []api.Graph{
					living(x, list(span(0, 2), span(y, z))),
					everAlive(3, 2, edge(x, y, leg(0, z, 1, 1))),
					everAlive(3, 2, edge(0, 1, leg(x, y, 1, z))),
					everAlive(3, 2, edge(0, 1, leg(0, x, y, 2), leg(z, 3, 1, 1))),
				} {
					if e := graph.Check(g); e != api.OK {
						refused(t, g, g, 0, 0, e)
						never(t, g, g, 0, 1, e)
					} else {
						holdAll(t, g, hopByHop)
					}
				}
			}
		}
	}
}

// TestWildNumbers: whatever is asked of a graph each call answers, and with something only beside OK.
func TestWildNumbers(t *testing.T) {
	g := town()
	wrong := func(v int) bool { return v < 0 || v >= len(g.Lives) }
	for _, v := range wild() {
		for _, n := range wild() {
			if wrong(v) || wrong(n) {
				never(t, "wild", g, v, n, api.ErrNone)
			}
			switch {
			case wrong(v):
				refused(t, "wild", g, v, n, api.ErrNone)
			case n < 0 || n >= g.Horizon:
				refused(t, "wild", g, v, n, api.ErrArg)
			default:
				holdFrom(t, g, v, n, hopByHop(g, v, n))
			}
		}
	}
}
