package bsp_test

import (
	"math/rand"
	"slices"
	"testing"

	"timeweft/api"
	"timeweft/bsp"
	"timeweft/graph"
	"timeweft/plain"
)

// snapshots are those of all times of a graph.
func snapshots(t *testing.T, g api.Graph) []api.Snapshot {
	t.Helper()
	var all []api.Snapshot
	for at := range g.Horizon {
		s, e := graph.At(g, at)
		if e != api.OK {
			t.Fatal(g, at, e)
		}
		all = append(all, s)
	}
	return all
}

// alone is what package plain tells of a snapshot.
func alone(s api.Snapshot, program, from int) []int {
	var told []int
	switch program {
	case api.PHops:
		told, _ = plain.Hops(s, from)
	case api.PCosts:
		told, _ = plain.Costs(s, from)
	case api.PLabels:
		told, _ = plain.Labels(s)
	}
	return told
}

// eachTimeAlone is what must be told of each vertex: one time after the other, and pieces grow while the number stays.
func eachTimeAlone(all []api.Snapshot, vertices, program, from int) [][]api.Piece {
	maps := make([][]api.Piece, vertices)
	for at, s := range all {
		for v, n := range alone(s, program, from) {
			last := len(maps[v]) - 1
			switch {
			case n == api.Inf:
			case last >= 0 && maps[v][last].To == at && maps[v][last].Value == n:
				maps[v][last].To++
			default:
				maps[v] = append(maps[v], piece(at, at+1, n))
			}
		}
	}
	return maps
}

// price is what an arc adds.
func price(a api.Arc, program int) int {
	switch program {
	case api.PHops:
		return 1
	case api.PCosts:
		return a.Cost
	}
	return 0
}

// first is what is told at one time ahead of round 1.
func first(s api.Snapshot, program, from int) map[int]int {
	told := map[int]int{}
	for v, alive := range s.Alive {
		if alive && program == api.PLabels {
			told[v] = v
		} else if alive && v == from {
			told[v] = 0
		}
	}
	return told
}

// nextRound hears, at one time, what the news of the round ahead are told on as, and answers those of the round.
func nextRound(s api.Snapshot, program int, least, news map[int]int) map[int]int {
	heard := map[int]int{}
	tell := func(from, to, more int) {
		n, ok := news[from]
		if was, any := heard[to]; ok && (!any || n+more < was) {
			heard[to] = n + more
		}
	}
	for _, a := range s.Arcs {
		tell(a.A, a.B, price(a, program))
		if program == api.PLabels {
			tell(a.B, a.A, 0)
		}
	}
	for v, n := range heard {
		if was, any := least[v]; any && was <= n {
			delete(heard, v)
		} else {
			least[v] = n
		}
	}
	return heard
}

// countRounds goes all rounds at all times at once.
func countRounds(all []api.Snapshot, program, from int) int {
	least, news := make([]map[int]int, len(all)), make([]map[int]int, len(all))
	for at, s := range all {
		least[at], news[at] = first(s, program, from), first(s, program, from)
	}
	for rounds := 0; ; rounds++ {
		some := false
		for at, s := range all {
			news[at] = nextRound(s, program, least[at], news[at])
			some = some || len(news[at]) > 0
		}
		if !some {
			return rounds
		}
	}
}

// hold asks one program of a graph, by one and by more workers.
func hold(t *testing.T, g api.Graph, all []api.Snapshot, program, from, workers int) {
	t.Helper()
	want := eachTimeAlone(all, len(g.Lives), program, from)
	wantRounds := countRounds(all, program, from)
	got, rounds, e := bsp.Run(g, program, from)
	expect(t, g, got, want, rounds, wantRounds, e)
	got, rounds, e = bsp.Combined(g, program, from, workers)
	expect(t, g, got, want, rounds, wantRounds, e)
}

// holdAll asks each program of a graph from each vertex.
func holdAll(t *testing.T, g api.Graph) {
	t.Helper()
	all := snapshots(t, g)
	for from := range g.Lives {
		hold(t, g, all, api.PHops, from, 2)
		hold(t, g, all, api.PCosts, from, 3)
	}
	hold(t, g, all, api.PLabels, -1, 5)
}

func TestRightGraphs(t *testing.T) {
	for _, g := range rightGraphs() {
		holdAll(t, g)
	}
}

// someLegs are lists of legs for two times.
func someLegs() [][]api.Leg {
	return [][]api.Leg{
		nil,
		{leg(0, 1, 1, 1)},
		{leg(1, 2, 1, 0)},
		{leg(0, 2, 1, 3)},
		{leg(0, 1, 2, 3), leg(1, 2, 1, 1)},
	}
}

// TestSmallGraphs: all of two times and three vertices, of which one comes later or goes earlier, with edges between any two of them, one way round, that have these legs.
func TestSmallGraphs(t *testing.T) {
	ends := [][2]int{{0, 1}, {1, 2}, {2, 0}, {0, 2}}
	for _, life := range []api.Ivl{span(0, 2), span(0, 1), span(1, 2)} {
		for _, a := range someLegs() {
			for _, b := range someLegs() {
				for _, c := range someLegs() {
					for _, d := range someLegs() {
						g := everAlive(2, 3)
						g.Lives[1] = life
						for i, legs := range [][]api.Leg{a, b, c, d} {
							g.Edges = append(g.Edges, edge(ends[i][0], ends[i][1], legs...))
						}
						holdAll(t, g)
						slices.Reverse(g.Edges)
						holdAll(t, g)
					}
				}
			}
		}
	}
}

// someSpan is one of any length within the horizon.
func someSpan(r *rand.Rand, horizon int) api.Ivl {
	from := r.Intn(horizon)
	return span(from, from+1+r.Intn(horizon-from))
}

// someGraph has up to as much of everything as there may be.
func someGraph(r *rand.Rand) api.Graph {
	g := api.Graph{Horizon: 1 + r.Intn(api.MaxHorizon)}
	for range 1 + r.Intn(api.MaxVertices) {
		life := span(0, g.Horizon)
		if r.Intn(3) == 0 {
			life = someSpan(r, g.Horizon)
		}
		g.Lives = append(g.Lives, life)
	}
	most := []int{2, 10, api.MaxCost + 1}[r.Intn(3)]
	for range r.Intn(api.MaxEdges + 1) {
		e := edge(r.Intn(len(g.Lives)), r.Intn(len(g.Lives)))
		for from := r.Intn(g.Horizon); from < g.Horizon && len(e.Legs) < api.MaxLegs; {
			to := from + 1 + r.Intn(min(g.Horizon-from, 20))
			e.Legs = append(e.Legs, leg(from, to, 1+r.Intn(api.MaxTravel), r.Intn(most)))
			from = to + r.Intn(3)
		}
		g.Edges = append(g.Edges, e)
	}
	return g
}

// TestGreatGraphs: up to as much of everything as there may be; the same ones each time.
func TestGreatGraphs(t *testing.T) {
	r := rand.New(rand.NewSource(6))
	for range 150 {
		g := someGraph(r)
		all, from, workers := snapshots(t, g), r.Intn(len(g.Lives)), 1+r.Intn(64)
		for program := api.PHops; program <= api.PLabels; program++ {
			hold(t, g, all, program, from, workers)
		}
	}
}
