package pack_test

import (
	"encoding/binary"
	"hash/crc32"
	"slices"
	"strings"
	"testing"

	"timeweft/api"
	"timeweft/graph"
	"timeweft/internal/probe"
	"timeweft/pack"
)

// What the tests of several packages have is short here.
var (
	span, leg, edge          = probe.Span, probe.Leg, probe.Edge
	living, everAlive        = probe.Living, probe.EverAlive
	town, ring               = probe.Town, probe.Ring
	rightGraphs, wrongGraphs = probe.RightGraphs, probe.WrongGraphs
)

// list is short for one list.
func list[T any](l ...T) []T {
	return l
}

// words are numbers as two bytes each.
func words(numbers ...uint16) string {
	var b []byte
	for _, n := range numbers {
		b = binary.BigEndian.AppendUint16(b, n)
	}
	return string(b)
}

// summed has the sum behind it.
func summed(s string) string {
	return s + string(binary.LittleEndian.AppendUint32(nil, crc32.ChecksumIEEE([]byte(s))))
}

// numbers are those of any graph, a wrong one too, as far as two bytes tell them.
func numbers(g api.Graph) []uint16 {
	l := list(uint16(g.Horizon), uint16(len(g.Lives)), uint16(len(g.Edges)))
	for _, life := range g.Lives {
		l = append(l, uint16(life.From), uint16(life.To))
	}
	for _, e := range g.Edges {
		l = append(l, uint16(e.A), uint16(e.B), uint16(len(e.Legs)))
		for _, leg := range e.Legs {
			l = append(l, uint16(leg.From), uint16(leg.To), uint16(leg.Time), uint16(leg.Cost))
		}
	}
	return l
}

// packed are the bytes of a graph, a wrong one too.
func packed(g api.Graph) string {
	return summed(words(numbers(g)...))
}

// encodes reports an answer of Encode that isn't the bytes that are wanted.
func encodes(t *testing.T, what any, g api.Graph, want string) {
	t.Helper()
	if got, e := pack.Encode(g); e != api.OK || got != want {
		t.Errorf("%v: %q %d, not %q", what, got, e, want)
	}
}

// noBytes reports an answer of Encode that isn't the error that is wanted, alone.
func noBytes(t *testing.T, what any, g api.Graph, want api.Errno) {
	t.Helper()
	if got, e := pack.Encode(g); e != want || got != "" {
		t.Errorf("%v: %q %d, not %d", what, got, e, want)
	}
}

// decodes reports an answer of Decode that isn't the graph and the number of bytes that are wanted.
func decodes(t *testing.T, what any, s string, want api.Graph, bytes int) {
	t.Helper()
	if got, n, e := pack.Decode(s); e != api.OK || n != bytes || !probe.SameGraph(got, want) {
		t.Errorf("%v: %q: %v %d %d, not %v %d", what, s, got, n, e, want, bytes)
	}
}

// noGraph reports an answer of Decode that isn't the error that is wanted, alone.
func noGraph(t *testing.T, what any, s string, want api.Errno) {
	t.Helper()
	if g, n, e := pack.Decode(s); e != want || n != 0 || g.Horizon != 0 || g.Lives != nil || g.Edges != nil {
		t.Errorf("%v: %q: %v %d %d, not %d", what, s, g, n, e, want)
	}
}

// TestExample: an empty graph has ten bytes.
func TestExample(t *testing.T) {
	s, e := pack.Encode(api.Graph{Horizon: 5})
	if e != api.OK || len(s) != 10 {
		t.Errorf("%q %d", s, e)
	}
	decodes(t, "empty", s, api.Graph{Horizon: 5}, 10)
}

// TestBytes: some graphs byte by byte, sums included.
func TestBytes(t *testing.T) {
	for _, c := range []struct {
		g    api.Graph
		want string
	}{
		{api.Graph{Horizon: 5}, "\x00\x05\x00\x00\x00\x00" + "\xd3\x2e\x22\x79"},
		{living(100, list(span(0, 100), span(98, 99))),
			"\x00\x64\x00\x02\x00\x00" + "\x00\x00\x00\x64" + "\x00\x62\x00\x63" + "\xef\x8e\xc7\xb4"},
		// 1000 needs both of its bytes.
		{living(9, list(span(1, 9), span(0, 2)), edge(1, 0, leg(2, 3, 50, 1000), leg(4, 8, 1, 256)), edge(0, 0)),
			"\x00\x09\x00\x02\x00\x02" + "\x00\x01\x00\x09" + "\x00\x00\x00\x02" +
				"\x00\x01\x00\x00\x00\x02" + "\x00\x02\x00\x03\x00\x32\x03\xe8" + "\x00\x04\x00\x08\x00\x01\x01\x00" +
				"\x00\x00\x00\x00\x00\x00" + "\xce\x89\x10\x57"},
	} {
		encodes(t, "bytes", c.g, c.want)
		decodes(t, "bytes", c.want, c.g, len(c.want))
	}
}

// TestRightGraphs: there and back, whatever stands behind.
func TestRightGraphs(t *testing.T) {
	for i, g := range rightGraphs() {
		s := packed(g)
		encodes(t, i, g, s)
		for _, behind := range list("", "\x00", "more", s, s[:len(s)-1], strings.Repeat("\xff", 5000), strings.Repeat("\x00", 1<<17)) {
			decodes(t, i, s+behind, g, len(s))
		}
	}
}

// TestGreatest: a graph that has as much of everything as there may be, and so as many bytes.
func TestGreatest(t *testing.T) {
	const most = 6 + 12*4 + 30*(6+6*8) + 4
	s, e := pack.Encode(ring())
	if e != api.OK || len(s) != most {
		t.Error(len(s), e)
	}
	decodes(t, "ring", s, ring(), most)
}

// TestWrongGraphs: both calls tell graph.Check's error; Decode does if the sum is right, and it is no matter of counts.
func TestWrongGraphs(t *testing.T) {
	for i, g := range wrongGraphs() {
		want := graph.Check(g)
		if want == api.OK {
			t.Fatal(i, "a right graph")
		}
		noBytes(t, i, g, want)
		noGraph(t, i, packed(g), want)
	}
}

// TestCheckOrder: where several things are wrong the first one is told, of all that can be told by bytes.
func TestCheckOrder(t *testing.T) {
	twoLegs := func(a, b api.Leg) api.Graph { return everAlive(9, 2, edge(0, 1, a, b)) }
	for _, c := range []struct {
		g    api.Graph
		want api.Errno
	}{
		{api.Graph{Horizon: 0}, api.ErrArg},
		{api.Graph{Horizon: 101}, api.ErrArg},
		{api.Graph{Horizon: 65535}, api.ErrArg},
		{living(9, list(span(3, 3))), api.ErrArg},
		{living(9, list(span(0, 10))), api.ErrArg},
		{living(9, list(span(0, 9), span(65535, 9))), api.ErrArg},
		{living(9, list(span(0, 10)), edge(0, 7)), api.ErrArg},
		{everAlive(9, 2, edge(0, 2)), api.ErrNone},
		{everAlive(9, 2, edge(2, 0)), api.ErrNone},
		{everAlive(9, 2, edge(65535, 0)), api.ErrNone},
		{everAlive(9, 0, edge(0, 0)), api.ErrNone},
		{everAlive(9, 2, edge(0, 1, leg(0, 10, 1, 1)), edge(2, 0)), api.ErrArg},
		{everAlive(9, 2, edge(2, 0), edge(0, 1, leg(0, 10, 1, 1))), api.ErrNone},
		{everAlive(9, 2, edge(0, 1, leg(0, 9, 0, 1))), api.ErrArg},
		{everAlive(9, 2, edge(0, 1, leg(0, 9, 51, 1))), api.ErrArg},
		{everAlive(9, 2, edge(0, 1, leg(0, 9, 257, 1))), api.ErrArg},
		{everAlive(9, 2, edge(0, 1, leg(0, 9, 1, 1001))), api.ErrArg},
		{everAlive(9, 2, edge(0, 1, leg(0, 9, 1, 65535))), api.ErrArg},
		{twoLegs(leg(0, 4, 1, 0), leg(3, 6, 1, 0)), api.ErrForm},
		{twoLegs(leg(0, 4, 1, 0), leg(3, 6, 0, 0)), api.ErrArg},
		{twoLegs(leg(4, 6, 1, 0), leg(0, 2, 1, 0)), api.ErrForm},
	} {
		noBytes(t, c.g, c.g, c.want)
		noGraph(t, c.g, packed(c.g), c.want)
		// The sum is asked for first, whatever the graph is.
		s := []byte(packed(c.g))
		s[len(s)-1]++
		noGraph(t, c.g, string(s), api.ErrForm)
		noGraph(t, c.g, string(s[:len(s)-1]), api.ErrForm)
	}
}

// TestTooShort: any beginning of a right graph's bytes is none, whatever is to stand there.
func TestTooShort(t *testing.T) {
	for i, g := range rightGraphs() {
		s := packed(g)
		for n := range len(s) {
			noGraph(t, i, s[:n], api.ErrForm)
		}
	}
}

// TestWrongSums: each bit counts, and the order of bytes.
func TestWrongSums(t *testing.T) {
	for i, g := range list(api.Graph{Horizon: 5}, town()) {
		s := []byte(packed(g))
		sum := s[len(s)-4:]
		for bit := range 32 {
			sum[bit/8] ^= 1 << (bit % 8)
			noGraph(t, i, string(s), api.ErrForm)
			sum[bit/8] ^= 1 << (bit % 8)
		}
		decodes(t, i, string(s), g, len(s))
		slices.Reverse(sum)
		noGraph(t, i, string(s), api.ErrForm)
	}
}

// TestSumOfAll: the sum is that of all numbers, not of what stands behind or is left out.
func TestSumOfAll(t *testing.T) {
	n := words(numbers(town())...)
	noGraph(t, "one less", n+summed(n[:len(n)-1])[len(n)-1:], api.ErrForm)
	noGraph(t, "without the horizon", n+summed(n[2:])[len(n)-2:], api.ErrForm)
	noGraph(t, "with what is behind", n+summed(n + "more")[len(n)+4:], api.ErrForm)
	noGraph(t, "none", n+"\x00\x00\x00\x00", api.ErrForm)
}

// TestTooMany: a count that is too great is told where it stands, whatever is behind it, or isn't there.
func TestTooMany(t *testing.T) {
	for _, ahead := range list(
		words(5, 13), words(5, 255), words(5, 256), words(5, 65535), words(0, 13), words(101, 13),
		words(5, 0, 31), words(5, 12, 31), words(5, 1, 256), words(5, 1, 65535), words(0, 1, 31),
		words(5, 0, 1, 0, 0, 7), words(5, 1, 1, 0, 5, 0, 0, 7), words(5, 1, 30, 0, 5, 0, 0, 65535), words(5, 1, 1, 0, 5, 0, 0, 256),
		// What is wrong ahead of it is asked for by graph.Check, and so later.
		words(5, 1, 1, 3, 3, 9, 9, 7), words(0, 1, 1, 0, 5, 0, 0, 7), words(5, 1, 2, 0, 5, 0, 9, 1, 4, 4, 0, 1001, 0, 0, 7),
	) {
		for _, behind := range list("", "\x00", "\x00\x00", "\x00\x1f", "\xff\xff\xff\xff", strings.Repeat("\x00", 3000)) {
			noGraph(t, "too many", ahead+behind, api.ErrLarge)
			noGraph(t, "too many", summed(ahead+behind), api.ErrLarge)
		}
		// Half of the count is none yet.
		noGraph(t, "half", ahead[:len(ahead)-1], api.ErrForm)
	}
}

// TestTooManyThings: the same of graphs whose bytes are all there, with their sum.
func TestTooManyThings(t *testing.T) {
	legs := func(n int) api.Edge {
		e := edge(0, 0)
		for from := range n {
			e.Legs = append(e.Legs, leg(from, from+1, 1, 0))
		}
		return e
	}
	for _, c := range []struct {
		most, more api.Graph
	}{
		{everAlive(9, 12), everAlive(9, 13)},
		{everAlive(9, 1, slices.Repeat(list(edge(0, 0)), 30)...), everAlive(9, 1, slices.Repeat(list(edge(0, 0)), 31)...)},
		{everAlive(9, 1, legs(6)), everAlive(9, 1, legs(7))},
		{everAlive(9, 1, slices.Repeat(list(legs(6)), 30)...), everAlive(9, 1, append(slices.Repeat(list(legs(6)), 29), legs(7))...)},
	} {
		s := packed(c.most)
		encodes(t, "most", c.most, s)
		decodes(t, "most", s, c.most, len(s))
		noBytes(t, "more", c.more, api.ErrLarge)
		noGraph(t, "more", packed(c.more), api.ErrLarge)
	}
}
