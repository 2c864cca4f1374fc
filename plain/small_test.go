package plain_test

import (
	"math/rand"
	"slices"
	"testing"

	"timeweft/api"
	"timeweft/plain"
)

// walk goes every way on from a vertex that comes to none twice, and calls f with each vertex it comes to, and the number and sum of Costs of the arcs so far.
func walk(arcs []api.Arc, v, hops, cost int, seen []bool, f func(v, hops, cost int)) {
	f(v, hops, cost)
	seen[v] = true
	for _, a := range arcs {
		if a.A == v && !seen[a.B] {
			walk(arcs, a.B, hops+1, cost+a.Cost, seen, f)
		}
	}
	seen[v] = false
}

// byWays is what Hops and Costs must tell.
func byWays(s api.Snapshot, from int) (hops, costs []int) {
	n := len(s.Alive)
	hops, costs = none(n), none(n)
	if s.Alive[from] {
		walk(s.Arcs, from, 0, 0, make([]bool, n), func(v, h, c int) {
			hops[v], costs[v] = min(hops[v], h), min(costs[v], c)
		})
	}
	return hops, costs
}

// bySets is what Labels must tell: each arc makes one set of its ends' sets.
func bySets(s api.Snapshot) []int {
	labels := none(len(s.Alive))
	for v, ok := range s.Alive {
		if ok {
			labels[v] = v
		}
	}
	for _, a := range s.Arcs {
		x, y := labels[a.A], labels[a.B]
		for v := range labels {
			if labels[v] == x || labels[v] == y {
				labels[v] = min(x, y)
			}
		}
	}
	return labels
}

// byCount is what Degrees must tell.
func byCount(s api.Snapshot) []int {
	degrees := none(len(s.Alive))
	for v, ok := range s.Alive {
		if !ok {
			continue
		}
		degrees[v] = 0
		for _, a := range s.Arcs {
			if a.A == v {
				degrees[v]++
			}
		}
	}
	return degrees
}

// hold asks every call of a snapshot.
func hold(t *testing.T, s api.Snapshot) {
	t.Helper()
	for from := range s.Alive {
		hops, costs := byWays(s, from)
		got, e := plain.Hops(s, from)
		expect(t, s, got, hops, e)
		got, e = plain.Costs(s, from)
		expect(t, s, got, costs, e)
	}
	got, e := plain.Labels(s)
	expect(t, s, got, bySets(s), e)
	got, e = plain.Degrees(s)
	expect(t, s, got, byCount(s), e)
}

// smallArcs calls f with all lists of arcs, at most one for each two vertices that are alive, and of some costs; of a loop with one cost alone.
func smallArcs(alive []bool, at int, arcs []api.Arc, f func(arcs []api.Arc)) {
	n := len(alive)
	if at == n*n {
		f(arcs)
		return
	}
	smallArcs(alive, at+1, arcs, f)
	a, b := at/n, at%n
	if !alive[a] || !alive[b] {
		return
	}
	for _, cost := range []int{0, 1, 3} {
		if a != b || cost == 0 {
			smallArcs(alive, at+1, append(slices.Clone(arcs), arc(a, b, cost)), f)
		}
	}
}

// TestSmallSnapshots: all of three vertices, with their arcs forward and backward in the list.
func TestSmallSnapshots(t *testing.T) {
	const vertices = 3
	for bits := range 1 << vertices {
		alive := make([]bool, vertices)
		for v := range alive {
			alive[v] = bits>>v&1 == 1
		}
		smallArcs(alive, 0, nil, func(arcs []api.Arc) {
			backward := slices.Clone(arcs)
			slices.Reverse(backward)
			hold(t, api.Snapshot{Alive: alive, Arcs: arcs})
			hold(t, api.Snapshot{Alive: alive, Arcs: backward})
		})
	}
}

// TestGreatSnapshots: up to as many vertices and arcs as there may be; the same ones each time.
func TestGreatSnapshots(t *testing.T) {
	r := rand.New(rand.NewSource(4))
	for range 500 {
		s := all(1 + r.Intn(api.MaxVertices))
		var living []int
		for v := range s.Alive {
			if s.Alive[v] = r.Intn(6) > 0; s.Alive[v] {
				living = append(living, v)
			}
		}
		if len(living) > 0 {
			pick := func() int { return living[r.Intn(len(living))] }
			most := []int{2, 10, api.MaxCost + 1}[r.Intn(3)]
			for range r.Intn(api.MaxEdges + 1) {
				s.Arcs = append(s.Arcs, arc(pick(), pick(), r.Intn(most)))
			}
		}
		hold(t, s)
	}
}
