package turn_test

import (
	"slices"
	"testing"

	"timeweft/api"
	"timeweft/graph"
	"timeweft/internal/probe"
	"timeweft/turn"
)

// answer is what both calls answer of a graph.
type answer struct {
	graphs []api.Graph
	errors []api.Errno
}

// keeps are some parts of a graph, and some lists that are none.
func keeps(vertices int) [][]bool {
	half, rest := make([]bool, vertices), make([]bool, vertices)
	for v := range half {
		half[v] = v%2 == 0
		rest[v] = v > 0
	}
	return [][]bool{slices.Repeat(list(true), vertices), half, rest, make([]bool, vertices), make([]bool, vertices+1), nil}
}

// ask calls Reverse, and Only for some parts.
func ask(g api.Graph, keeps [][]bool) answer {
	back, e := turn.Reverse(g)
	a := answer{list(back), list(e)}
	for _, keep := range keeps {
		part, e := turn.Only(g, keep)
		a.graphs, a.errors = append(a.graphs, part), append(a.errors, e)
	}
	return a
}

// same takes no list and an empty one for the same.
func (a answer) same(b answer) bool {
	return slices.EqualFunc(a.graphs, b.graphs, probe.SameGraph) && slices.Equal(a.errors, b.errors)
}

// copied shares nothing with its answer that a call told.
func (a answer) copied() answer {
	b := answer{errors: a.errors}
	for _, g := range a.graphs {
		b.graphs = append(b.graphs, probe.CopyGraph(g))
	}
	return b
}

// spoil writes over each list that a call told, and the room behind it.
func (a answer) spoil() {
	for _, g := range a.graphs {
		probe.SpoilGraph(g)
	}
}

// roomyKeeps are copies with room behind them, in which it is said that all is kept.
func roomyKeeps(l [][]bool) [][]bool {
	var r [][]bool
	for _, keep := range l {
		r = append(r, probe.Roomy(keep, true))
	}
	return r
}

// wholes are copies of lists with what stands in the room behind them.
func wholes(l [][]bool) [][]bool {
	var r [][]bool
	for _, keep := range l {
		r = append(r, slices.Clone(probe.Whole(keep)))
	}
	return r
}

// TestGivenIsLeft: no call changes what it is given, nor reads, writes or tells the room behind its lists.
func TestGivenIsLeft(t *testing.T) {
	for i, g := range append(rightGraphs(), wrongGraphs()...) {
		roomy, some := probe.RoomyGraph(g), roomyKeeps(keeps(len(g.Lives)))
		was, wasKept := probe.WholeGraph(roomy), wholes(some)
		got := ask(roomy, some)
		if want := ask(g, keeps(len(g.Lives))); !got.same(want) {
			t.Error(i, "the room is read", got, want)
		}
		got.spoil()
		if !probe.SameGraph(probe.WholeGraph(roomy), was) || !slices.EqualFunc(wholes(some), wasKept, slices.Equal) {
			t.Error(i, "what was handed in is changed, or shared")
		}
	}
}

// TestGraphsAreNew: what is answered is the caller's alone, and the next answer to the same is the same.
func TestGraphsAreNew(t *testing.T) {
	for i, right := range rightGraphs() {
		g, some := probe.RoomyGraph(right), roomyKeeps(keeps(len(right.Lives)))
		first := ask(g, some)
		want := first.copied()
		first.spoil()
		second := ask(g, some)
		probe.SpoilGraph(g)
		for _, keep := range some {
			probe.Spoil(keep, false)
		}
		first.spoil()
		if !second.same(want) {
			t.Error(i, "another answer the second time, or a shared one", second, want)
		}
	}
}

// TestLegsAreApart: no two edges of an answer share memory, the room behind their legs included, not even if those of the given graph do.
func TestLegsAreApart(t *testing.T) {
	legs := slices.Grow(list(leg(0, 1, 1, 3), leg(1, 4, 2, 4), leg(4, 5, 1, 5)), 5)
	shared := everAlive(12, 3, edge(0, 1, legs...), edge(1, 2, legs...), edge(2, 0, legs[:2]...), edge(0, 0, legs[2:]...))
	for i, g := range append(rightGraphs(), shared) {
		for j, told := range ask(g, keeps(len(g.Lives))).graphs {
			if !probe.LegsApart(told) {
				t.Error(i, j, "two edges share their legs")
			}
		}
	}
}

// TestWildGraphs: whatever stands in a graph each call answers, and with something only beside OK.
func TestWildGraphs(t *testing.T) {
	for _, x := range wild() {
		for _, y := range wild() {
			for _, z := range wild() {
				for _, g := range list(
					living(x, list(span(0, 2), span(y, z))),
					everAlive(3, 2, edge(x, y, leg(0, z, 1, 0))),
					everAlive(3, 2, edge(0, 1, leg(x, y, z, 0))),
					everAlive(3, 2, edge(0, 1, leg(0, x, y, z))),
					everAlive(3, 2, edge(0, 1, leg(0, x, y, 0), leg(z, 3, 1, 0))),
				) {
					if e := graph.Check(g); e != api.OK {
						noTurn(t, g, g, e)
						noPart(t, g, g, list(true, true), e)
					} else {
						holdReverse(t, g)
						holdParts(t, g)
					}
				}
			}
		}
	}
}
