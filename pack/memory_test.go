package pack_test

import (
	"testing"

	"timeweft/api"
	"timeweft/graph"
	"timeweft/internal/probe"
	"timeweft/pack"
)

// TestGivenIsLeft: Encode changes nothing of what it is given, nor reads or writes the room behind its lists.
func TestGivenIsLeft(t *testing.T) {
	for i, g := range append(rightGraphs(), wrongGraphs()...) {
		roomy := probe.RoomyGraph(g)
		was := probe.WholeGraph(roomy)
		got, e := pack.Encode(roomy)
		if want, f := pack.Encode(g); got != want || e != f {
			t.Errorf("%d: the room is read: %q %d, not %q %d", i, got, e, want, f)
		}
		if !probe.SameGraph(probe.WholeGraph(roomy), was) {
			t.Error(i, "what was handed in is changed")
		}
	}
}

// TestBytesAreNew: bytes that were told stay what they are, whatever becomes of the graph.
func TestBytesAreNew(t *testing.T) {
	for i, g := range rightGraphs() {
		roomy := probe.RoomyGraph(g)
		first, _ := pack.Encode(roomy)
		second, _ := pack.Encode(roomy)
		probe.SpoilGraph(roomy)
		if first != packed(g) || second != first {
			t.Errorf("%d: %q %q", i, first, second)
		}
	}
}

// TestGraphsAreNew: a graph that is read is the caller's alone, and so is each of its lists.
func TestGraphsAreNew(t *testing.T) {
	for i, g := range rightGraphs() {
		s := packed(g)
		first, _, _ := pack.Decode(s)
		second, _, _ := pack.Decode(s)
		if !probe.LegsApart(first) {
			t.Error(i, "two edges share their legs")
		}
		probe.SpoilGraph(first)
		if !probe.SameGraph(second, g) {
			t.Error(i, "a shared answer", second)
		}
		decodes(t, i, s, g, len(s))
	}
}

// TestWildGraphs: whatever stands in a graph Encode answers, and bytes only of a right one: no number is cut down to what two bytes tell.
func TestWildGraphs(t *testing.T) {
	wild := append(probe.Wild(), 1<<16, 1<<16+1, 1<<16+3)
	try := func(g api.Graph) {
		t.Helper()
		if e := graph.Check(g); e != api.OK {
			noBytes(t, g, g, e)
		} else {
			encodes(t, g, g, packed(g))
		}
	}
	for _, x := range wild {
		for _, y := range wild {
			for _, z := range wild {
				try(living(x, list(span(0, 2), span(y, z))))
				try(everAlive(3, 2, edge(x, y, leg(0, z, 1, 0))))
				try(everAlive(3, 2, edge(0, 1, leg(x, y, z, 0))))
				try(everAlive(3, 2, edge(0, 1, leg(0, x, y, z))))
				try(everAlive(3, 2, edge(0, 1, leg(0, x, y, 0), leg(z, 3, 1, 0))))
			}
		}
	}
}
