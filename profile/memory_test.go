package profile_test

import (
	"slices"
	"testing"

	"timeweft/api"
	"timeweft/graph"
	"timeweft/internal/probe"
	"timeweft/profile"
)

// answer is what both calls answer of a graph.
type answer struct {
	maps   [][]api.Piece
	reach  [][][]bool
	errors []api.Errno
}

// ask calls Of for some vertices, and Reach for some times, wrong ones included.
func ask(g api.Graph) answer {
	var a answer
	n := len(g.Lives)
	for _, from := range list(-1, 0, n/2, n-1, n) {
		for to := range n + 1 {
			m, e := profile.Of(g, from, to)
			a.maps, a.errors = append(a.maps, m), append(a.errors, e)
		}
	}
	for _, start := range list(-1, 0, g.Horizon/2, g.Horizon) {
		for _, end := range list(0, g.Horizon/2, g.Horizon-1, g.Horizon) {
			l, e := profile.Reach(g, start, end)
			a.reach, a.errors = append(a.reach, l), append(a.errors, e)
		}
	}
	return a
}

// same takes no list and an empty one for the same.
func (a answer) same(b answer) bool {
	return slices.EqualFunc(a.maps, b.maps, slices.Equal) && slices.Equal(a.errors, b.errors) &&
		slices.EqualFunc(a.reach, b.reach, func(x, y [][]bool) bool { return slices.EqualFunc(x, y, slices.Equal) })
}

// copied shares nothing with its answer that a call told.
func (a answer) copied() answer {
	b := answer{errors: a.errors}
	for _, m := range a.maps {
		b.maps = append(b.maps, slices.Clone(m))
	}
	for _, l := range a.reach {
		rows := slices.Clone(l)
		for i := range rows {
			rows[i] = slices.Clone(rows[i])
		}
		b.reach = append(b.reach, rows)
	}
	return b
}

// spoil writes over each list that a call told, and the room behind it.
func (a answer) spoil() {
	for _, m := range a.maps {
		probe.Spoil(m, piece(-7, -3, 77))
	}
	for _, l := range a.reach {
		for _, row := range l {
			for i, was := range probe.Whole(row) {
				probe.Whole(row)[i] = !was
			}
		}
		probe.Spoil(l, nil)
	}
}

// TestGraphsAreLeft: no call changes its graph, nor reads or writes the room behind its lists.
func TestGraphsAreLeft(t *testing.T) {
	for i, g := range append(rightGraphs(), wrongGraphs()...) {
		roomy := probe.RoomyGraph(g)
		was := probe.WholeGraph(roomy)
		got := ask(roomy)
		if want := ask(g); !got.same(want) {
			t.Error(i, "the room is read", got, want)
		}
		got.spoil()
		if !probe.SameGraph(probe.WholeGraph(roomy), was) {
			t.Error(i, "what was handed in is changed, or shared")
		}
	}
}

// TestListsAreNew: what is answered is the caller's alone, and the next answer to the same is the same.
func TestListsAreNew(t *testing.T) {
	for i, right := range rightGraphs() {
		g := probe.RoomyGraph(right)
		first := ask(g)
		want := first.copied()
		first.spoil()
		second := ask(g)
		probe.SpoilGraph(g)
		first.spoil()
		if !second.same(want) {
			t.Error(i, "another answer the second time, or a shared one", second, want)
		}
	}
}

// TestRowsAreApart: what is told of one vertex shares no memory with what is told of another, the room behind it included.
func TestRowsAreApart(t *testing.T) {
	for i, g := range rightGraphs() {
		l, _ := profile.Reach(g, 0, g.Horizon-1)
		for _, row := range l {
			probe.Spoil(row, false)
		}
		for v, row := range l {
			probe.Spoil(row, true)
			for w, other := range l {
				if w != v && slices.Contains(probe.Whole(other), true) {
					t.Error(i, v, w, "are shared")
				}
			}
			probe.Spoil(row, false)
		}
	}
}

// TestWildGraphs: whatever stands in a graph each call answers, and with something only beside OK.
func TestWildGraphs(t *testing.T) {
	for _, x := range wild() {
		for _, y := range wild() {
			for _, z := range wild() {
				for _, g := range []api.Graph{
					living(x, list(span(0, 2), span(y, z))),
					everAlive(3, 2, edge(x, y, leg(0, z, 1, 0))),
					everAlive(3, 2, edge(0, 1, leg(x, y, z, 0))),
					everAlive(3, 2, edge(0, 1, leg(0, x, y, 0), leg(z, 3, 1, 0))),
				} {
					if e := graph.Check(g); e != api.OK {
						noMap(t, g, g, 0, 1, e)
						noReach(t, g, g, 0, 0, e)
					} else {
						holdAll(t, g)
					}
				}
			}
		}
	}
}

// TestWildNumbers: whatever is asked of a graph each call answers, and with something only beside OK.
func TestWildNumbers(t *testing.T) {
	g := town()
	all := firsts(g)
	for _, x := range wild() {
		for _, y := range wild() {
			if min(x, y) < 0 || max(x, y) >= len(g.Lives) {
				noMap(t, "wild", g, x, y, api.ErrNone)
			}
			if min(x, y) < 0 || max(x, y) >= g.Horizon {
				noReach(t, "wild", g, x, y, api.ErrArg)
			} else {
				holdReach(t, g, all, x, y)
			}
		}
	}
}
