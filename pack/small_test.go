package pack_test

import (
	"math/rand"
	"slices"
	"testing"

	"timeweft/api"
	"timeweft/graph"
	"timeweft/internal/probe"
)

// shape says how many numbers a graph has, by its counts alone; or which error stands in their way.
func shape(n []uint16) (int, api.Errno) {
	at := func(i int, most uint16) (int, api.Errno) {
		if i >= len(n) {
			return 0, api.ErrForm
		}
		if n[i] > most {
			return 0, api.ErrLarge
		}
		return int(n[i]), api.OK
	}
	vertices, e := at(1, api.MaxVertices)
	if e != api.OK {
		return 0, e
	}
	edges, e := at(2, api.MaxEdges)
	if e != api.OK {
		return 0, e
	}
	end := 3 + 2*vertices
	for range edges {
		legs, e := at(end+2, api.MaxLegs)
		if e != api.OK {
			return 0, e
		}
		end += 3 + 4*legs
	}
	if end > len(n) {
		return 0, api.ErrForm
	}
	return end, api.OK
}

// unpacked is the graph of numbers of which the shape is known.
func unpacked(n []uint16) api.Graph {
	next := func() int {
		first := n[0]
		n = n[1:]
		return int(first)
	}
	g := api.Graph{Horizon: next()}
	g.Lives, g.Edges = make([]api.Ivl, next()), make([]api.Edge, next())
	for i := range g.Lives {
		life := &g.Lives[i]
		life.From = next()
		life.To = next()
	}
	for i := range g.Edges {
		e := &g.Edges[i]
		e.A = next()
		e.B = next()
		e.Legs = make([]api.Leg, next())
		for j := range e.Legs {
			l := &e.Legs[j]
			l.From = next()
			l.To = next()
			l.Time = next()
			l.Cost = next()
		}
	}
	return g
}

// hold asks for what bytes are to be read as, and tells which error that is: first come the counts, then the sum, then the graph.
func hold(t *testing.T, s string) api.Errno {
	t.Helper()
	var n []uint16
	for i := 1; i < len(s); i += 2 {
		n = append(n, uint16(s[i-1])*256+uint16(s[i]))
	}
	end, want := shape(n)
	if want != api.OK {
		noGraph(t, "shape", s, want)
		return want
	}
	if whole := summed(s[:2*end]); len(s) < len(whole) || s[:len(whole)] != whole {
		noGraph(t, "sum", s, api.ErrForm)
		return api.ErrForm
	}
	g := unpacked(n)
	if want := graph.Check(g); want != api.OK {
		noGraph(t, "graph", s, want)
		return want
	}
	decodes(t, "graph", s, g, 2*end+4)
	encodes(t, "graph", g, s[:2*end+4])
	return api.OK
}

// TestSmallTexts: all texts of up to two bytes, and all of eight numbers of which each is one of few, with a sum behind each of their beginnings, and without.
func TestSmallTexts(t *testing.T) {
	hold(t, "")
	for x := range 256 {
		hold(t, string([]byte{byte(x)}))
		for y := range 256 {
			hold(t, string([]byte{byte(x), byte(y)}))
		}
	}
	few := list[uint16](0, 1, 2, 31)
	for code := range 1 << 16 {
		var n []uint16
		for i := range 8 {
			n = append(n, few[code>>(2*i)&3])
		}
		hold(t, words(n...))
		for length := range 9 {
			hold(t, summed(words(n[:length]...)))
		}
	}
}

// TestSmallGraphs: two vertices of any lives, and an edge of any leg, within three times.
func TestSmallGraphs(t *testing.T) {
	for _, x := range probe.Spans(3) {
		for _, y := range probe.Spans(3) {
			for _, e := range probe.OneLeg(1, 0, 3, 777) {
				g := living(3, list(x, y), e)
				s := packed(g)
				encodes(t, g, g, s)
				decodes(t, g, s, g, len(s))
			}
		}
	}
}

// TestBits: whichever bit is turned, it isn't that graph any more, nor, with the old sum, any other.
func TestBits(t *testing.T) {
	for i, g := range rightGraphs() {
		s := []byte(packed(g))
		for bit := range 8 * len(s) {
			s[bit/8] ^= 1 << (bit % 8)
			if hold(t, string(s)) == api.OK {
				t.Errorf("%d %d %q", i, bit, s)
			}
			if n := len(s) - 4; bit < 8*n {
				hold(t, summed(string(s[:n])))
			}
			s[bit/8] ^= 1 << (bit % 8)
		}
	}
}

// TestNumbers: each number of a graph becomes another one, with a right sum behind all.
func TestNumbers(t *testing.T) {
	seen := make([]int, 6)
	for _, g := range list(town(), everAlive(9, 2, edge(0, 1, leg(0, 3, 1, 0), leg(3, 9, 50, 1000)), edge(1, 1))) {
		n := numbers(g)
		for i, was := range n {
			for _, n[i] = range list[uint16](0, 1, 2, 3, 6, 7, 9, 10, 12, 13, 30, 31, 50, 51, 100, 101, 255, 256, 1000, 1001, 32767, 32768, 65535) {
				seen[hold(t, summed(words(n...)))]++
				seen[hold(t, summed(words(n...))+"\x00\x00\x00\x00\x00\x00")]++
			}
			n[i] = was
		}
	}
	for _, e := range list(api.OK, api.ErrArg, api.ErrLarge, api.ErrNone, api.ErrForm) {
		if seen[e] == 0 {
			t.Error("never told", e)
		}
	}
}

// TestGreatGraphs: up to as much of everything as there may be, whole, cut off, and with some numbers changed; the same ones each time.
func TestGreatGraphs(t *testing.T) {
	r := rand.New(rand.NewSource(12))
	for range 400 {
		g := probe.SomeGraph(r.Intn)
		s := packed(g)
		encodes(t, "great", g, s)
		decodes(t, "great", s, g, len(s))
		for range 20 {
			hold(t, s[:r.Intn(len(s))])
			n := numbers(g)
			for range 1 + r.Intn(3) {
				n[r.Intn(len(n))] = uint16(r.Intn(list(3, 14, 110, 1100, 1<<16)[r.Intn(5)]))
			}
			hold(t, summed(words(n...)))
			hold(t, summed(words(n[:r.Intn(len(n))]...)))
		}
	}
}

// TestManyAtOnce: who reads graphs that stand one behind the other finds each of them.
func TestManyAtOnce(t *testing.T) {
	all, behind := rightGraphs(), ""
	for _, g := range slices.Backward(all) {
		behind = packed(g) + behind
		decodes(t, "one of many", behind, g, len(packed(g)))
	}
}
