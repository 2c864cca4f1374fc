package journey_test

import (
	"math/rand"
	"slices"
	"testing"

	"timeweft/api"
	"timeweft/journey"
)

// ride is what a hop does, wherever one is.
type ride struct {
	a, depart, b, arrive, cost int
}

// rides are all hops that some journey can have.
func rides(g api.Graph) map[api.Hop]ride {
	has := func(v, at int) bool { return at >= g.Lives[v].From && at <= g.Lives[v].To-1 }
	all := map[api.Hop]ride{}
	for i, e := range g.Edges {
		for _, l := range e.Legs {
			for depart := l.From; depart < l.To; depart++ {
				arrive := depart + l.Time
				if has(e.A, depart) && arrive < g.Horizon && has(e.B, arrive) {
					all[hop(i, depart)] = ride{e.A, depart, e.B, arrive, l.Cost}
				}
			}
		}
	}
	return all
}

// there is who goes on a journey, one time after the other.
type there struct {
	v, time, cost int
	lost          bool
}

// wait lets a time pass, if the vertex lasts.
func (w *there) wait(g api.Graph) {
	w.time++
	w.lost = w.lost || w.time >= g.Lives[w.v].To
}

// take waits for a ride, and goes.
func (w *there) take(g api.Graph, r ride) {
	for !w.lost && w.time < r.depart {
		w.wait(g)
	}
	if w.lost || w.v != r.a || w.time != r.depart {
		w.lost = true
		return
	}
	w.v, w.time, w.cost = r.b, r.arrive, w.cost+r.cost
}

// walk is what must become of a list of hops.
func walk(g api.Graph, all map[api.Hop]ride, from, start int, l []api.Hop) there {
	w := there{v: from, time: start, lost: start < g.Lives[from].From || start >= g.Lives[from].To}
	for _, h := range l {
		r, ok := all[h]
		w.lost = w.lost || !ok
		if !w.lost {
			w.take(g, r)
		}
	}
	return w
}

// holdGo asks one list of hops.
func holdGo(t *testing.T, g api.Graph, all map[api.Hop]ride, from, start int, l []api.Hop) {
	t.Helper()
	if w := walk(g, all, from, start, l); w.lost {
		fails(t, g, g, from, start, l, api.ErrForm)
	} else {
		comes(t, g, g, from, start, l, w.v, w.time, w.cost)
	}
}

// holdOut asks what leaves a vertex from a time on.
func holdOut(t *testing.T, g api.Graph, all map[api.Hop]ride, at, time int) {
	t.Helper()
	var want []api.Hop
	for h := range all {
		if !walk(g, all, at, time, hops(h)).lost {
			want = append(want, h)
		}
	}
	slices.SortFunc(want, func(x, y api.Hop) int {
		if x.Depart != y.Depart {
			return x.Depart - y.Depart
		}
		return x.Edge - y.Edge
	})
	leaves(t, g, g, at, time, want)
}

// holdRides holds the rides of a graph against all hops that some journey can have, and each that follows another one against its place.
func holdRides(t *testing.T, g api.Graph, all map[api.Hop]ride) {
	t.Helper()
	got := journey.Rides(g)
	if len(got) != len(all) {
		t.Error(g, got, "not", all)
	}
	for i, r := range got {
		want, ok := all[r.Hop]
		if !ok || r.From != want.a || r.To != want.b || r.Arrive != want.arrive || r.Cost != want.cost {
			t.Error(g, r, "not", want, ok)
		}
		if i == 0 {
			continue
		}
		ahead := got[i-1].Hop
		if ahead.Depart > r.Hop.Depart || ahead.Depart == r.Hop.Depart && ahead.Edge >= r.Hop.Edge {
			t.Error(g, r.Hop, "behind", ahead)
		}
	}
}

// spans are all that lie within a number of times.
func spans(horizon int) []api.Ivl {
	var l []api.Ivl
	for from := range horizon {
		for to := from + 1; to <= horizon; to++ {
			l = append(l, span(from, to))
		}
	}
	return l
}

// smallLists are no hop, each one, of edges and at times that aren't there, too, and two that might be.
func smallLists(horizon, edges int) [][]api.Hop {
	l := [][]api.Hop{nil}
	for e := -1; e <= edges; e++ {
		for at := -1; at <= horizon; at++ {
			l = append(l, hops(hop(e, at)))
		}
	}
	for i := range horizon * edges {
		for j := range horizon * edges {
			l = append(l, hops(hop(i%edges, i/edges), hop(j%edges, j/edges)))
		}
	}
	return l
}

// TestSmallGraphs: all lives of two vertices within three times, an edge from the one to the other with each leg, and a second edge of any ends but these.
func TestSmallGraphs(t *testing.T) {
	const horizon = 3
	lists := smallLists(horizon, 2)
	second := []api.Edge{edge(1, 0, leg(0, 3, 1, 2)), edge(1, 0, leg(0, 1, 2, 2), leg(1, 3, 1, 3)), edge(1, 1, leg(0, 3, 1, 2)), edge(0, 0, leg(0, 2, 1, 2))}
	for _, x := range spans(horizon) {
		for _, y := range spans(horizon) {
			for _, p := range spans(horizon) {
				for time := 1; time <= horizon; time++ {
					for _, other := range second {
						g := api.Graph{Horizon: horizon, Lives: []api.Ivl{x, y}, Edges: []api.Edge{edge(0, 1, leg(p.From, p.To, time, 7)), other}}
						holdSmall(t, g, lists)
					}
				}
			}
		}
	}
}

// holdSmall asks all lists from each vertex at each time.
func holdSmall(t *testing.T, g api.Graph, lists [][]api.Hop) {
	t.Helper()
	all := rides(g)
	holdRides(t, g, all)
	for v := range g.Lives {
		for time := range g.Horizon {
			for _, l := range lists {
				holdGo(t, g, all, v, time, l)
			}
			holdOut(t, g, all, v, time)
		}
	}
}

// someSpan is one of any length within the horizon.
func someSpan(r *rand.Rand, horizon int) api.Ivl {
	from := r.Intn(horizon)
	return span(from, from+1+r.Intn(horizon-from))
}

// someGraph has up to as much of everything as there may be.
func someGraph(r *rand.Rand) api.Graph {
	g := api.Graph{Horizon: 1 + r.Intn(api.MaxHorizon)}
	for range 1 + r.Intn(api.MaxVertices) {
		life := span(0, g.Horizon)
		if r.Intn(3) == 0 {
			life = someSpan(r, g.Horizon)
		}
		g.Lives = append(g.Lives, life)
	}
	slow := []int{2, 6, api.MaxTravel}[r.Intn(3)]
	for range r.Intn(api.MaxEdges + 1) {
		e := edge(r.Intn(len(g.Lives)), r.Intn(len(g.Lives)))
		for from := r.Intn(g.Horizon); from < g.Horizon && len(e.Legs) < api.MaxLegs; {
			to := from + 1 + r.Intn(min(g.Horizon-from, 20))
			e.Legs = append(e.Legs, leg(from, to, 1+r.Intn(slow), r.Intn(api.MaxCost+1)))
			from = to + r.Intn(3)
		}
		g.Edges = append(g.Edges, e)
	}
	return g
}

// someJourney goes on along one of the first few hops that Out tells, as long as there is one.
func someJourney(t *testing.T, r *rand.Rand, g api.Graph, from, start int) []api.Hop {
	t.Helper()
	var l []api.Hop
	for at, time := from, start; ; {
		out, e := journey.Out(g, at, time)
		if e != api.OK {
			t.Fatal(g, at, time, e)
		}
		if len(out) == 0 {
			return l
		}
		l = append(l, out[r.Intn(min(len(out), 5))])
		if at, time, _, e = journey.Go(g, from, start, l); e != api.OK {
			t.Fatal(g, from, start, l, e)
		}
	}
}

// TestGreatGraphs: journeys as long as they get, and others that differ from one in a hop; the same ones each time.
func TestGreatGraphs(t *testing.T) {
	r := rand.New(rand.NewSource(7))
	longest := 0
	for range 300 {
		g := someGraph(r)
		all, from, start := rides(g), r.Intn(len(g.Lives)), r.Intn(g.Horizon)
		holdRides(t, g, all)
		for v := range g.Lives {
			holdOut(t, g, all, v, start)
		}
		l := someJourney(t, r, g, from, start)
		longest = max(longest, len(l))
		holdGo(t, g, all, from, start, l)
		for i := range l {
			holdGo(t, g, all, from, start, l[:i])
			holdGo(t, g, all, from, start, slices.Delete(slices.Clone(l), i, i+1))
			other := slices.Clone(l)
			other[i].Depart += r.Intn(7) - 3
			holdGo(t, g, all, from, start, other)
			other[i] = hop(r.Intn(len(g.Edges)), l[i].Depart)
			holdGo(t, g, all, from, start, other)
		}
	}
	if longest < 20 {
		t.Error("too short journeys to ask for what is meant", longest)
	}
}
