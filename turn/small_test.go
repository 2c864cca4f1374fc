package turn_test

import (
	"cmp"
	"math/rand"
	"slices"
	"testing"

	"timeweft/api"
	"timeweft/early"
	"timeweft/graph"
	"timeweft/internal/probe"
	"timeweft/journey"
	"timeweft/turn"
)

// goneBack asks at each time whether one comes by a leg, and so has the times at which one leaves when time is turned round, the last one first.
func goneBack(l api.Leg, horizon int) []int {
	var times []int
	for comes := range horizon {
		if leaves := comes - l.Time; leaves >= l.From && leaves < l.To {
			times = append(times, horizon-1-comes)
		}
	}
	return times
}

// turnedByHand is what Reverse is to tell, with as many edges as there are.
func turnedByHand(g api.Graph) api.Graph {
	back := api.Graph{Horizon: g.Horizon, Lives: slices.Clone(g.Lives)}
	for v := range g.Lives {
		back.Lives[v] = span(g.Horizon-g.Lives[v].To, g.Horizon-g.Lives[v].From)
	}
	for _, e := range g.Edges {
		for _, l := range e.Legs {
			if times := goneBack(l, g.Horizon); len(times) > 0 {
				back.Edges = append(back.Edges, edge(e.B, e.A, leg(slices.Min(times), slices.Max(times)+1, l.Time, l.Cost)))
			}
		}
	}
	return back
}

// holdReverse asks for one graph turned round, and says whether there is one.
func holdReverse(t *testing.T, g api.Graph) bool {
	t.Helper()
	want := turnedByHand(g)
	if len(want.Edges) > api.MaxEdges {
		noTurn(t, g, g, api.ErrLarge)
		return false
	}
	turns(t, g, g, want)
	return true
}

// holdWalks asks whether who can go from somewhere to elsewhere can go back, when time is turned round, and nobody else can.
func holdWalks(t *testing.T, g api.Graph) {
	t.Helper()
	back, e := turn.Reverse(g)
	if e != api.OK {
		t.Fatal(g, e)
	}
	there, again, last := probe.Walks(g), probe.Walks(back), g.Horizon-1
	for v := range g.Lives {
		for w := range g.Lives {
			for start := range g.Horizon {
				for end := range g.Horizon {
					if there[v][start][end][w] != again[w][last-end][last-start][v] {
						t.Error(g, back, v, start, w, end)
					}
				}
			}
		}
	}
}

// mirroredTime is a time as it is told when time is turned round; that there is none is told as such.
func mirroredTime(horizon, at int) int {
	switch at {
	case api.Inf:
		return -1
	case -1:
		return api.Inf
	}
	return horizon - 1 - at
}

// holdTimes asks whether the latest are the earliest, and the earliest the latest, when time is turned round.
func holdTimes(t *testing.T, g api.Graph) {
	t.Helper()
	back, e := turn.Reverse(g)
	if e != api.OK {
		t.Fatal(g, e)
	}
	mirror := func(l []int, _ api.Errno) []int {
		for i := range l {
			l[i] = mirroredTime(g.Horizon, l[i])
		}
		return l
	}
	for v := range g.Lives {
		for at := range g.Horizon {
			then := g.Horizon - 1 - at
			if got, e := early.Departures(g, v, at); e != api.OK || !slices.Equal(got, mirror(early.Arrivals(back, v, then))) {
				t.Error(g, back, v, at, got, e)
			}
			if got, e := early.Arrivals(g, v, at); e != api.OK || !slices.Equal(got, mirror(early.Departures(back, v, then))) {
				t.Error(g, back, v, at, got, e)
			}
		}
	}
}

// trip is a ride without the number of its edge.
type trip struct {
	from, leaves, to, comes, cost int
}

func inOrder(a, b trip) int {
	return cmp.Or(a.from-b.from, a.leaves-b.leaves, a.to-b.to, a.comes-b.comes, a.cost-b.cost)
}

// trips are all that a graph has, or the way back of each with time turned round.
func trips(g api.Graph, back bool) []trip {
	var l []trip
	for _, r := range journey.Rides(g) {
		one := trip{r.From, r.Hop.Depart, r.To, r.Arrive, r.Cost}
		if back {
			one = trip{r.To, g.Horizon - 1 - r.Arrive, r.From, g.Horizon - 1 - r.Hop.Depart, r.Cost}
		}
		l = append(l, one)
	}
	slices.SortFunc(l, inOrder)
	return l
}

// holdTwice asks whether the same can be gone, for the same cost, when time is turned round twice, and the way back when it is once; what was turned twice is turned to what was turned once.
func holdTwice(t *testing.T, g api.Graph) {
	t.Helper()
	once, e := turn.Reverse(g)
	twice, f := turn.Reverse(once)
	if e != api.OK || f != api.OK {
		t.Fatal(g, e, f)
	}
	if !slices.Equal(trips(once, false), trips(g, true)) || !slices.Equal(trips(twice, false), trips(g, false)) || !slices.Equal(twice.Lives, g.Lives) {
		t.Error(g, once, twice)
	}
	turns(t, g, twice, once)
}

// without takes one vertex away, its edges with it.
func without(g api.Graph, v int) api.Graph {
	less := func(w int) int {
		if w > v {
			return w - 1
		}
		return w
	}
	g = probe.CopyGraph(g)
	g.Lives = slices.Delete(g.Lives, v, v+1)
	g.Edges = slices.DeleteFunc(g.Edges, func(e api.Edge) bool { return e.A == v || e.B == v })
	for i := range g.Edges {
		g.Edges[i].A, g.Edges[i].B = less(g.Edges[i].A), less(g.Edges[i].B)
	}
	return g
}

// holdOnly asks for a part of a graph.
func holdOnly(t *testing.T, g api.Graph, keep []bool) {
	t.Helper()
	want := g
	for v := len(keep) - 1; v >= 0; v-- {
		if !keep[v] {
			want = without(want, v)
		}
	}
	leaves(t, g, g, keep, want)
}

// holdParts asks for all parts of a graph.
func holdParts(t *testing.T, g api.Graph) {
	t.Helper()
	for some := range 1 << len(g.Lives) {
		keep := make([]bool, len(g.Lives))
		for v := range keep {
			keep[v] = some>>v&1 == 1
		}
		holdOnly(t, g, keep)
	}
}

func TestRightGraphs(t *testing.T) {
	for _, g := range rightGraphs() {
		holdParts(t, g)
		if holdReverse(t, g) {
			holdWalks(t, g)
			holdTimes(t, g)
			holdTwice(t, g)
		}
	}
}

// TestSmallPairs: all lives of two vertices within three times, and two edges of any leg each between them, to and fro.
func TestSmallPairs(t *testing.T) {
	const horizon = 3
	for _, x := range spans(horizon) {
		for _, y := range spans(horizon) {
			for _, e := range oneLeg(0, 1, horizon, 5) {
				for _, f := range oneLeg(1, 0, horizon, 7) {
					g := living(horizon, list(x, y), e, f)
					holdReverse(t, g)
					holdWalks(t, g)
					holdTimes(t, g)
					holdTwice(t, g)
				}
			}
		}
	}
}

// TestSmallLegs: all pairs of legs that one edge can have within five times, and all times that they take up to behind the horizon.
func TestSmallLegs(t *testing.T) {
	const horizon = 5
	for _, e := range oneLeg(0, 1, horizon, 5) {
		for _, f := range oneLeg(0, 1, horizon, 7) {
			if e.Legs[0].To > f.Legs[0].From {
				continue
			}
			g := everAlive(horizon, 2, edge(0, 1, e.Legs[0], f.Legs[0]), edge(1, 1, e.Legs[0]))
			holdReverse(t, g)
			holdTwice(t, g)
			holdParts(t, g)
		}
	}
}

// TestGreatGraphs: up to as much of everything as there may be; the same ones each time. Of a graph that has too many legs to be turned round, edges are taken away till it hasn't.
func TestGreatGraphs(t *testing.T) {
	r := rand.New(rand.NewSource(11))
	large, full := 0, 0
	for range 150 {
		g := probe.SomeGraph(r.Intn)
		for range 10 {
			keep := make([]bool, len(g.Lives))
			for v := range keep {
				keep[v] = r.Intn(4) > 0
			}
			holdOnly(t, g, keep)
		}
		for !holdReverse(t, g) {
			g.Edges = g.Edges[:len(g.Edges)-1]
			large++
		}
		if back, _ := turn.Reverse(g); len(back.Edges) == api.MaxEdges {
			full++
		}
		holdTimes(t, g)
		holdTwice(t, g)
	}
	if large < 10 || full < 1 {
		t.Error("too few graphs at the bound", large, full)
	}
}

// TestPartsAtEachTime: a snapshot of a part is that part of the snapshot.
func TestPartsAtEachTime(t *testing.T) {
	keep := list(true, false, true, true)
	part, e := turn.Only(town(), keep)
	if e != api.OK {
		t.Fatal(e)
	}
	numbers := list(0, -1, 1, 2)
	for at := range town().Horizon {
		all, _ := graph.At(town(), at)
		var want api.Snapshot
		for v, alive := range all.Alive {
			if keep[v] {
				want.Alive = append(want.Alive, alive)
			}
		}
		for _, arc := range all.Arcs {
			if keep[arc.A] && keep[arc.B] {
				want.Arcs = append(want.Arcs, api.Arc{A: numbers[arc.A], B: numbers[arc.B], Cost: arc.Cost})
			}
		}
		if got, e := graph.At(part, at); e != api.OK || !probe.SameSnapshot(got, want) {
			t.Error(at, got, e, want)
		}
	}
}
