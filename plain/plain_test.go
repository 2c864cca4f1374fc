package plain_test

import (
	"math"
	"slices"
	"testing"

	"timeweft/api"
	"timeweft/graph"
	"timeweft/internal/probe"
	"timeweft/plain"
)

const inf = api.Inf

// arc is short for one arc.
func arc(a, b, cost int) api.Arc {
	return api.Arc{A: a, B: b, Cost: cost}
}

// all has a number of vertices that are alive, and arcs.
func all(vertices int, arcs ...api.Arc) api.Snapshot {
	return api.Snapshot{Alive: slices.Repeat([]bool{true}, vertices), Arcs: arcs}
}

// town has a way round that is cheaper than the straight one, vertices that aren't alive (the first and the last one, too), a loop, two arcs between the same vertices, a circle, arcs against each other, and vertices that only an arc the wrong way round hangs on.
func town() api.Snapshot {
	return api.Snapshot{Alive: []bool{false, true, true, true, false, true, true, true, false}, Arcs: []api.Arc{
		arc(3, 2, 4), arc(1, 3, 5), arc(1, 2, 10), arc(1, 2, 11), arc(2, 2, 0), arc(2, 1, 1), arc(5, 2, 0), arc(6, 7, 1000), arc(7, 6, 0),
	}}
}

// chain has as many vertices as there may be, in a row, each with an arc to the next one; backward the arcs stand in the list against their way.
func chain(backward bool) api.Snapshot {
	s := all(api.MaxVertices)
	for v := range api.MaxVertices - 1 {
		s.Arcs = append(s.Arcs, arc(v, v+1, api.MaxCost))
	}
	if backward {
		slices.Reverse(s.Arcs)
	}
	return s
}

// full has as much of everything as there may be.
func full() api.Snapshot {
	return all(api.MaxVertices, slices.Repeat([]api.Arc{arc(0, api.MaxVertices-1, api.MaxCost)}, api.MaxEdges)...)
}

func rightSnapshots() []api.Snapshot {
	return []api.Snapshot{
		{},
		{Alive: []bool{}, Arcs: []api.Arc{}},
		{Alive: []bool{false}},
		{Alive: make([]bool, api.MaxVertices)},
		all(1), all(1, arc(0, 0, 0)), all(1, arc(0, 0, api.MaxCost)),
		all(api.MaxVertices), town(), chain(false), chain(true), full(),
	}
}

// fault is one thing that makes a snapshot wrong, with its error.
type fault struct {
	name string
	do   func(s *api.Snapshot)
	want api.Errno
}

// faults stand in the order in which they are told: of two in one snapshot the first one's error is the answer.
func faults() []fault {
	list := []fault{
		{"13 vertices", func(s *api.Snapshot) { s.Alive = append(s.Alive, true, true, true, true) }, api.ErrLarge},
		{"31 arcs", func(s *api.Snapshot) { s.Arcs = append(s.Arcs, slices.Repeat(s.Arcs[:1], 22)...) }, api.ErrLarge},
	}
	for _, i := range []int{0, 4, 8} {
		for _, n := range []int{math.MinInt, -1, 0, 4, 8, 13, math.MaxInt} {
			list = append(list,
				fault{"an arc from nowhere", func(s *api.Snapshot) { s.Arcs[i].A = n }, api.ErrNone},
				fault{"an arc to nowhere", func(s *api.Snapshot) { s.Arcs[i].B = n }, api.ErrNone})
		}
	}
	for _, i := range []int{0, 4, 8} {
		for _, n := range []int{math.MinInt, -1, api.MaxCost + 1, math.MaxInt} {
			list = append(list, fault{"a cost", func(s *api.Snapshot) { s.Arcs[i].Cost = n }, api.ErrArg})
		}
	}
	return list
}

// with is a snapshot with one more change.
func with(s api.Snapshot, do func(s *api.Snapshot)) api.Snapshot {
	s = probe.CopySnapshot(s)
	do(&s)
	return s
}

// wrongSnapshot is a snapshot that Check refuses, with its error.
type wrongSnapshot struct {
	name string
	s    api.Snapshot
	want api.Errno
}

func wrongSnapshots() []wrongSnapshot {
	list := []wrongSnapshot{
		{"13 vertices", all(api.MaxVertices + 1), api.ErrLarge},
		{"13 vertices that aren't alive", api.Snapshot{Alive: make([]bool, api.MaxVertices+1)}, api.ErrLarge},
		{"31 arcs", all(1, make([]api.Arc, api.MaxEdges+1)...), api.ErrLarge},
		{"31 arcs between no vertices", api.Snapshot{Arcs: make([]api.Arc, api.MaxEdges+1)}, api.ErrLarge},
		{"31 arcs that cost too much", all(1, slices.Repeat([]api.Arc{arc(0, 0, -1)}, api.MaxEdges+1)...), api.ErrLarge},
		{"1000 vertices", all(1000), api.ErrLarge},
		{"an arc without vertices", api.Snapshot{Arcs: make([]api.Arc, 1)}, api.ErrNone},
		{"an arc of the one that isn't alive", api.Snapshot{Alive: make([]bool, 1), Arcs: make([]api.Arc, 1)}, api.ErrNone},
		{"a cost ahead of an end", all(2, arc(0, 1, -1), arc(0, 2, 0)), api.ErrNone},
		{"a cost and an end in one arc", all(2, arc(2, 1, 1001)), api.ErrNone},
	}
	for _, f := range faults() {
		list = append(list, wrongSnapshot{f.name, with(town(), f.do), f.want})
	}
	return list
}

func TestCheck(t *testing.T) {
	for i, s := range rightSnapshots() {
		if e := plain.Check(s); e != api.OK {
			t.Error(i, e)
		}
	}
	for _, w := range wrongSnapshots() {
		if e := plain.Check(w.s); e != w.want {
			t.Error(w.name, w.s, e, w.want)
		}
	}
}

// TestCheckTellsTheFirst: beside any that is told later each fault has its error.
func TestCheckTellsTheFirst(t *testing.T) {
	list := faults()
	for i, first := range list {
		for _, second := range list[i+1:] {
			if e := plain.Check(with(with(town(), second.do), first.do)); first.want != second.want && e != first.want {
				t.Error(first.name, "and", second.name, e, first.want)
			}
		}
	}
}

// TestSnapshotsOfGraphs: what graph.At tells is a snapshot that each call takes.
func TestSnapshotsOfGraphs(t *testing.T) {
	g, _, _ := graph.Parse("time 6\nvertex 0 6\nvertex 1 5\nedge 0 1\nleg 0 3 2 4\nleg 3 6 1 5\nedge 1 0\nleg 2 4 1 1000\n")
	var costs, labels [][]int
	for at := range g.Horizon {
		s, _ := graph.At(g, at)
		if e := plain.Check(s); e != api.OK {
			t.Error(at, e)
		}
		c, _ := plain.Costs(s, 0)
		l, _ := plain.Labels(s)
		costs, labels = append(costs, c), append(labels, l)
	}
	if want := [][]int{{0, inf}, {0, 4}, {0, 4}, {0, 5}, {0, 5}, {0, inf}}; !slices.EqualFunc(costs, want, slices.Equal) {
		t.Error(costs)
	}
	if want := [][]int{{0, inf}, {0, 0}, {0, 0}, {0, 0}, {0, 0}, {0, inf}}; !slices.EqualFunc(labels, want, slices.Equal) {
		t.Error(labels)
	}
}

// expect reports an answer that isn't the one that is wanted.
func expect(t *testing.T, what any, got, want []int, e api.Errno) {
	t.Helper()
	if e != api.OK || !slices.Equal(got, want) {
		t.Error(what, got, e, want)
	}
}

// none is Inf of each of a number of vertices.
func none(vertices int) []int {
	return slices.Repeat([]int{inf}, vertices)
}

func TestHopsAndCosts(t *testing.T) {
	for _, c := range []struct {
		from        int
		hops, costs []int
	}{
		{0, none(9), none(9)},
		{1, []int{inf, 0, 1, 1, inf, inf, inf, inf, inf}, []int{inf, 0, 9, 5, inf, inf, inf, inf, inf}},
		{2, []int{inf, 1, 0, 2, inf, inf, inf, inf, inf}, []int{inf, 1, 0, 6, inf, inf, inf, inf, inf}},
		{3, []int{inf, 2, 1, 0, inf, inf, inf, inf, inf}, []int{inf, 5, 4, 0, inf, inf, inf, inf, inf}},
		{4, none(9), none(9)},
		{5, []int{inf, 2, 1, 3, inf, 0, inf, inf, inf}, []int{inf, 1, 0, 6, inf, 0, inf, inf, inf}},
		{6, []int{inf, inf, inf, inf, inf, inf, 0, 1, inf}, []int{inf, inf, inf, inf, inf, inf, 0, 1000, inf}},
		{7, []int{inf, inf, inf, inf, inf, inf, 1, 0, inf}, []int{inf, inf, inf, inf, inf, inf, 0, 0, inf}},
		{8, none(9), none(9)},
	} {
		got, e := plain.Hops(town(), c.from)
		expect(t, c.from, got, c.hops, e)
		got, e = plain.Costs(town(), c.from)
		expect(t, c.from, got, c.costs, e)
	}
}

// TestChains: along the longest way there is, in whatever order its arcs stand.
func TestChains(t *testing.T) {
	for _, backward := range []bool{false, true} {
		s := chain(backward)
		for from := range api.MaxVertices {
			hops, costs := none(api.MaxVertices), none(api.MaxVertices)
			for v := from; v < api.MaxVertices; v++ {
				hops[v], costs[v] = v-from, (v-from)*api.MaxCost
			}
			got, e := plain.Hops(s, from)
			expect(t, from, got, hops, e)
			got, e = plain.Costs(s, from)
			expect(t, from, got, costs, e)
		}
		got, e := plain.Labels(s)
		expect(t, backward, got, make([]int, api.MaxVertices), e)
		for i, a := range s.Arcs {
			s.Arcs[i] = arc(a.B, a.A, a.Cost)
		}
		got, e = plain.Labels(s)
		expect(t, backward, got, make([]int, api.MaxVertices), e)
	}
}

func TestLabelsAndDegrees(t *testing.T) {
	for i, c := range []struct {
		s               api.Snapshot
		labels, degrees []int
	}{
		{api.Snapshot{}, nil, nil},
		{api.Snapshot{Alive: make([]bool, 3)}, none(3), none(3)},
		{all(3), []int{0, 1, 2}, []int{0, 0, 0}},
		{all(1, arc(0, 0, 7)), []int{0}, []int{1}},
		{all(2, arc(1, 0, 0)), []int{0, 0}, []int{0, 1}},
		{all(2, arc(0, 1, 0), arc(0, 1, 0)), []int{0, 0}, []int{2, 0}},
		// Who comes from 1 to 3 goes against one of the arcs, whichever way it is asked.
		{all(4, arc(1, 2, 1000), arc(3, 2, 1000)), []int{0, 1, 1, 1}, []int{0, 1, 0, 1}},
		{all(4, arc(2, 1, 1000), arc(2, 3, 1000)), []int{0, 1, 1, 1}, []int{0, 0, 2, 0}},
		{town(), []int{inf, 1, 1, 1, inf, 1, 6, 6, inf}, []int{inf, 3, 2, 1, inf, 1, 1, 1, inf}},
		{full(), []int{0, 1, 2, 3, 4, 5, 6, 7, 8, 9, 10, 0}, append([]int{api.MaxEdges}, make([]int, api.MaxVertices-1)...)},
	} {
		got, e := plain.Labels(c.s)
		expect(t, i, got, c.labels, e)
		got, e = plain.Degrees(c.s)
		expect(t, i, got, c.degrees, e)
	}
}

// refused reports an answer that isn't the error that is wanted, alone.
func refused(t *testing.T, what any, got []int, e, want api.Errno) {
	t.Helper()
	if e != want || got != nil {
		t.Error(what, got, e, want)
	}
}

// TestFromNowhere: a vertex that isn't alive is one, and what is no number of a vertex isn't.
func TestFromNowhere(t *testing.T) {
	for i, s := range rightSnapshots() {
		n := len(s.Alive)
		for _, from := range []int{math.MinInt, -1, n, n + 1, math.MaxInt} {
			got, e := plain.Hops(s, from)
			refused(t, i, got, e, api.ErrNone)
			got, e = plain.Costs(s, from)
			refused(t, i, got, e, api.ErrNone)
		}
		for from := range n {
			got, e := plain.Hops(s, from)
			if e != api.OK || len(got) != n || (got[from] == 0) != s.Alive[from] {
				t.Error(i, from, got, e)
			}
		}
	}
}

// TestWrongSnapshots: Check's error is told first, whatever from is.
func TestWrongSnapshots(t *testing.T) {
	for _, w := range wrongSnapshots() {
		for _, from := range []int{math.MinInt, -1, 0, 1, len(w.s.Alive), math.MaxInt} {
			got, e := plain.Hops(w.s, from)
			refused(t, w.name, got, e, w.want)
			got, e = plain.Costs(w.s, from)
			refused(t, w.name, got, e, w.want)
		}
		got, e := plain.Labels(w.s)
		refused(t, w.name, got, e, w.want)
		got, e = plain.Degrees(w.s)
		refused(t, w.name, got, e, w.want)
	}
}
