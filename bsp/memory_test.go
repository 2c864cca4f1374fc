package bsp_test

import (
	"math"
	"slices"
	"sync"
	"testing"

	"timeweft/api"
	"timeweft/bsp"
	"timeweft/graph"
	"timeweft/internal/probe"
)

// call is one of those that answer maps.
type call struct {
	name string
	of   func(g api.Graph) ([][]api.Piece, int, api.Errno)
}

func calls(from int) []call {
	var list []call
	for program := api.PHops; program <= api.PLabels; program++ {
		list = append(list,
			call{"Run", func(g api.Graph) ([][]api.Piece, int, api.Errno) { return bsp.Run(g, program, from) }},
			call{"Combined", func(g api.Graph) ([][]api.Piece, int, api.Errno) { return bsp.Combined(g, program, from, 4) }})
	}
	return list
}

func copyMaps(l [][]api.Piece) [][]api.Piece {
	l = slices.Clone(l)
	for v := range l {
		l[v] = slices.Clone(l[v])
	}
	return l
}

func sameMaps(a, b [][]api.Piece) bool {
	return slices.EqualFunc(a, b, slices.Equal)
}

// spoilMaps writes over each map, the list of them, and the room behind.
func spoilMaps(l [][]api.Piece) {
	for _, m := range probe.Whole(l) {
		probe.Spoil(m, piece(77, 78, 79))
	}
	probe.Spoil(l, some(piece(76, 77, 78)))
}

// mapsApart writes a mark of its own over each map, and the room behind it, and says whether each mark stays.
func mapsApart(l [][]api.Piece) bool {
	for v, m := range l {
		probe.Spoil(m, piece(v, v, v))
	}
	for v, m := range l {
		for _, p := range probe.Whole(m) {
			if p != piece(v, v, v) {
				return false
			}
		}
	}
	return true
}

// TestGraphsAreLeft: no call changes its graph, nor reads or writes the room behind its lists.
func TestGraphsAreLeft(t *testing.T) {
	for i, g := range append(rightGraphs(), wrongGraphs()...) {
		roomy := probe.RoomyGraph(g)
		was := probe.WholeGraph(roomy)
		for from := range len(g.Lives) + 1 {
			for _, c := range calls(from) {
				want, wantRounds, e := c.of(g)
				if got, rounds, f := c.of(roomy); e != f || rounds != wantRounds || !sameMaps(got, want) {
					t.Error(i, c.name, "reads the room", got, want)
				}
			}
		}
		if !probe.SameGraph(probe.WholeGraph(roomy), was) {
			t.Error(i, "what was handed in is changed")
		}
	}
}

// TestMapsAreNew: what is answered is the caller's alone, and the next answer to the same is the same.
func TestMapsAreNew(t *testing.T) {
	for i, right := range rightGraphs() {
		for _, c := range calls(len(right.Lives) / 2) {
			g := probe.RoomyGraph(right)
			first, rounds, e := c.of(g)
			want := copyMaps(first)
			spoilMaps(first)
			second, again, f := c.of(g)
			probe.SpoilGraph(g)
			spoilMaps(first)
			if e != f || rounds != again || !sameMaps(second, want) {
				t.Error(i, c.name, "another answer the second time, or a shared one")
			}
			if !mapsApart(second) {
				t.Error(i, c.name, "two maps of one answer share memory")
			}
		}
	}
}

// TestCallsAtTheSameTime: calls don't touch each other.
func TestCallsAtTheSameTime(t *testing.T) {
	g := town()
	want, _, _ := bsp.Run(g, api.PCosts, 0)
	answers := make([][][]api.Piece, 20)
	var wait sync.WaitGroup
	for i := range answers {
		wait.Add(1)
		go func() {
			defer wait.Done()
			answers[i], _, _ = bsp.Combined(g, api.PCosts, 0, i+1)
		}()
	}
	wait.Wait()
	for i, got := range answers {
		if !sameMaps(got, want) {
			t.Error(i, got, want)
		}
	}
}

// TestWildNumbers: whatever stands in a graph each call answers, and with maps only beside OK.
func TestWildNumbers(t *testing.T) {
	wild := []int{math.MinInt, -1, 0, 1, 2, 3, 1001, 1 << 32, math.MaxInt}
	for _, x := range wild {
		for _, y := range wild {
			for _, z := range wild {
				for _, g := range []api.Graph{
					{Horizon: x, Lives: []api.Ivl{span(0, 2), span(y, z)}},
					everAlive(3, 2, edge(x, y, leg(0, z, 1, 1))),
					everAlive(3, 2, edge(0, 1, leg(x, y, 1, z))),
					everAlive(3, 2, edge(0, 1, leg(0, x, y, z))),
				} {
					e := graph.Check(g)
					for _, c := range calls(0) {
						if got, rounds, f := c.of(g); f != e || (got != nil) != (f == api.OK) || f != api.OK && rounds != 0 {
							t.Error(c.name, g, got, rounds, e, f)
						}
					}
				}
			}
		}
	}
	for _, program := range wild {
		for _, from := range wild {
			for _, workers := range wild {
				if got, _, e := bsp.Combined(town(), program, from, workers); (got != nil) != (e == api.OK) {
					t.Error(program, from, workers, got, e)
				}
			}
		}
	}
}
