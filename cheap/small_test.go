package cheap_test

import (
	"math/rand"
	"testing"

	"timeweft/api"
	"timeweft/cheap"
	"timeweft/internal/probe"
	"timeweft/journey"
)

// best is what all journeys from a vertex at a time to each vertex have at the least.
type best struct {
	costs, hops, times []int
}

// noneYet is before any journey was tried.
func noneYet(vertices int) best {
	return best{every(api.Inf, vertices), every(api.Inf, vertices), every(api.Inf, vertices)}
}

// note holds one journey against those that were tried before.
func (b best) note(to, cost, hops, time int) {
	b.costs[to], b.hops[to], b.times[to] = min(b.costs[to], cost), min(b.hops[to], hops), min(b.times[to], time)
}

// asker tells the best from a vertex at a time.
type asker func(g api.Graph, from, start int) best

// tryAll takes each journey there is, hop by hop.
func tryAll(g api.Graph, from, start int) best {
	b := noneYet(len(g.Lives))
	var on func(at, time, cost, hops int)
	on = func(at, time, cost, hops int) {
		b.note(at, cost, hops, time)
		next, _ := journey.Out(g, at, time)
		for _, h := range next {
			to, then, more, _ := journey.Go(g, at, time, list(h))
			on(to, then, cost+more, hops+1)
		}
	}
	if at, time, cost, e := journey.Go(g, from, start, nil); e == api.OK {
		on(at, time, cost, 0)
	}
	return b
}

// prices has of each vertex at each time the least cost of coming to it then by a number of hops; Inf, if one can't.
type prices [][]int

func newPrices(g api.Graph) prices {
	p := make(prices, len(g.Lives))
	for v := range p {
		p[v] = every(api.Inf, g.Horizon)
	}
	return p
}

// stay lets who came wait for as long as the vertex is there.
func (p prices) stay(g api.Graph) {
	for v := range p {
		for at := 1; at < g.Horizon; at++ {
			if lives(g, v, at) {
				p[v][at] = min(p[v][at], p[v][at-1])
			}
		}
	}
}

// oneMore has what one pays with a hop more.
func (p prices) oneMore(g api.Graph) prices {
	next := newPrices(g)
	for _, e := range g.Edges {
		for _, l := range e.Legs {
			for at := l.From; at < l.To; at++ {
				if then := at + l.Time; then < g.Horizon && p[e.A][at] < api.Inf && lives(g, e.B, then) {
					next[e.B][then] = min(next[e.B][then], p[e.A][at]+l.Cost)
				}
			}
		}
	}
	return next
}

// hopByHop looks at all journeys of no hop, then at those of one, and so on while there are any.
func hopByHop(g api.Graph, from, start int) best {
	b := noneYet(len(g.Lives))
	p := newPrices(g)
	if lives(g, from, start) {
		p[from][start] = 0
	}
	for hops, some := 0, true; some; hops++ {
		some = false
		for v := range p {
			for at, cost := range p[v] {
				if cost < api.Inf {
					b.note(v, cost, hops, at)
					some = true
				}
			}
		}
		p.stay(g)
		p = p.oneMore(g)
	}
	return b
}

// comesTwice says whether a way comes to a vertex more than once.
func comesTwice(g api.Graph, from int, l []api.Hop) bool {
	seen := make([]bool, len(g.Lives))
	seen[from] = true
	for _, h := range l {
		v := g.Edges[h.Edge].B
		if seen[v] {
			return true
		}
		seen[v] = true
	}
	return false
}

// holdFrom asks what it takes from one vertex at one time, and how one goes.
func holdFrom(t *testing.T, g api.Graph, from, start int, want best) {
	t.Helper()
	pays(t, g, g, from, start, want.costs)
	changes(t, g, g, from, start, want.hops)
	for to, cost := range want.costs {
		if cost == api.Inf {
			noWay(t, g, g, from, start, to, api.ErrNone)
			continue
		}
		leads(t, g, g, from, start, to, cost)
		if l, _ := cheap.Way(g, from, start, to); comesTwice(g, from, l) {
			t.Error(g, from, start, to, l, "goes round for nothing")
		}
	}
}

// holdFastest asks for the fastest from one vertex to another, with what is best from the one at each time.
func holdFastest(t *testing.T, g api.Graph, from, to int, eachStart []best) {
	t.Helper()
	fastest, first := api.Inf, 0
	for at := len(eachStart) - 1; at >= 0; at-- {
		if time := eachStart[at].times[to]; time < api.Inf && time-at <= fastest {
			fastest, first = time-at, at
		}
	}
	if fastest == api.Inf {
		never(t, g, g, from, to, api.ErrNone)
	} else {
		takes(t, g, g, from, to, fastest, first)
	}
}

// holdAll asks all that can be asked of a graph.
func holdAll(t *testing.T, g api.Graph, ask asker) {
	t.Helper()
	for from := range g.Lives {
		var eachStart []best
		for at := range g.Horizon {
			eachStart = append(eachStart, ask(g, from, at))
			holdFrom(t, g, from, at, eachStart[at])
		}
		for to := range g.Lives {
			holdFastest(t, g, from, to, eachStart)
		}
	}
}

func TestRightGraphs(t *testing.T) {
	for _, g := range list(town(), free(), everAlive(1, 1, edge(0, 0, leg(0, 1, 1, 0))), living(3, list(span(0, 1), span(1, 3)), edge(0, 1, leg(0, 3, 1, 1)))) {
		holdAll(t, g, tryAll)
		holdAll(t, g, hopByHop)
	}
}

// TestSmallPairs: all lives of two vertices within three times, an edge of any leg from the one to the other, and a second edge of any ends, cheaper or dearer.
func TestSmallPairs(t *testing.T) {
	const horizon = 3
	second := list(
		edge(1, 0, leg(0, 3, 1, 0)), edge(1, 0, leg(0, 1, 2, 1), leg(1, 3, 1, 4)), edge(1, 1, leg(0, 3, 1, 0)), edge(0, 0, leg(0, 2, 1, 2)),
		edge(0, 1, leg(1, 2, 1, 0)), edge(0, 1, leg(0, 1, 1, 9), leg(1, 2, 1, 1)))
	for _, x := range spans(horizon) {
		for _, y := range spans(horizon) {
			for _, e := range oneLeg(0, 1, horizon, 3) {
				for _, other := range second {
					holdAll(t, living(horizon, list(x, y), e, other), tryAll)
				}
			}
		}
	}
}

// TestSmallWays: a way of two edges of any leg each, by way of a vertex of any life, and with a third edge straight on, for more or for less, or back.
func TestSmallWays(t *testing.T) {
	const horizon = 3
	ever := span(0, horizon)
	for _, life := range spans(horizon) {
		for _, e := range oneLeg(0, 1, horizon, 2) {
			for _, f := range oneLeg(1, 2, horizon, 3) {
				for _, third := range list(edge(0, 2, leg(1, 2, 1, 7)), edge(0, 2, leg(0, 2, 1, 4)), edge(1, 0, leg(0, 3, 1, 0))) {
					holdAll(t, living(horizon, list(ever, life, ever), f, third, e), tryAll)
				}
			}
		}
	}
}

// TestTwoLegs: all legs that one edge can have two of within four times, the first one dearer than the other or cheaper, on the way to a third vertex.
func TestTwoLegs(t *testing.T) {
	const horizon = 5
	for _, cost := range list(0, 5, 9) {
		for _, x := range oneLeg(0, 1, 4, cost) {
			for _, y := range oneLeg(0, 1, 4, 5) {
				if x.Legs[0].To <= y.Legs[0].From {
					e := edge(0, 1, x.Legs[0], y.Legs[0])
					holdAll(t, everAlive(horizon, 3, e, edge(1, 2, leg(0, 3, 2, 1), leg(3, 5, 1, 3))), tryAll)
				}
			}
		}
	}
}

// TestGreatGraphs: up to as much of everything as there may be; the same ones each time.
func TestGreatGraphs(t *testing.T) {
	r := rand.New(rand.NewSource(9))
	for range 200 {
		g := probe.SomeGraph(r.Intn)
		for range 3 {
			from, at := r.Intn(len(g.Lives)), r.Intn(g.Horizon)
			holdFrom(t, g, from, at, hopByHop(g, from, at))
		}
		from := r.Intn(len(g.Lives))
		var eachStart []best
		for at := range g.Horizon {
			eachStart = append(eachStart, hopByHop(g, from, at))
		}
		for to := range g.Lives {
			holdFastest(t, g, from, to, eachStart)
		}
	}
}

// TestRing: as many edges and legs as there may be.
func TestRing(t *testing.T) {
	g := ring()
	for at := 0; at < g.Horizon; at += 11 {
		for from := range g.Lives {
			holdFrom(t, g, from, at, hopByHop(g, from, at))
		}
	}
}
