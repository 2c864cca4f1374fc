package imap_test

import (
	"math"
	"slices"
	"testing"

	"timeweft/api"
	"timeweft/imap"
	"timeweft/internal/probe"
)

// call is one that answers a map, of two lists of pieces; where a set is asked for it is made of the second one.
type call struct {
	name string
	of   func(a, b []api.Piece) ([]api.Piece, api.Errno)
}

func calls() []call {
	all := []call{{"Put", func(a, b []api.Piece) ([]api.Piece, api.Errno) {
		if len(b) == 0 {
			return imap.Put(a, told(2, 2, 2))
		}
		return imap.Put(a, b[0])
	}}}
	for _, how := range hows() {
		all = append(all, call{"Merge", func(a, b []api.Piece) ([]api.Piece, api.Errno) { return imap.Merge(a, b, how) }})
	}
	for _, c := range setCalls() {
		all = append(all, call{c.name, func(a, b []api.Piece) ([]api.Piece, api.Errno) { return c.of(a, timesOf(b)) }})
	}
	return all
}

func roomy(m []api.Piece) []api.Piece {
	return probe.Roomy(m, told(-7, -3, 9))
}

func spoil(m []api.Piece) {
	probe.Spoil(m, told(77, 78, 79))
}

// handedIn are pairs of lists for which some answer could be a piece of what is handed in.
func handedIn() [][2][]api.Piece {
	return [][2][]api.Piece{
		{nil, nil},
		{nil, {told(0, 5, 1)}},
		{{told(0, 5, 1)}, nil},
		{{told(0, 5, 1)}, {}},
		{{told(0, 5, 1)}, {told(0, 5, 1)}},
		{{told(0, 5, 1)}, {told(5, 9, 1)}},
		{{told(5, 9, 1)}, {told(0, 5, 1), told(6, 7, 2)}},
		{{told(0, 2, 1), told(2, 9, 2), told(12, 20, 1)}, {told(1, 5, 3), told(7, 14, 1)}},
		{{told(5, 9, 1), told(1, 5, 1)}, {told(2, 1, 0)}},
		{stairs(0, api.MaxPieces), dots(1, 5, 7)},
		{dots(0, api.MaxPieces, 1), dots(1, api.MaxPieces, 2)},
	}
}

// TestMemory: what is handed in stays as it is, and what is answered is the caller's alone.
func TestMemory(t *testing.T) {
	for _, c := range calls() {
		for i, in := range handedIn() {
			if wrong := probe.Sharing(c.of, in[0], in[1], told(-7, -3, 9), told(77, 78, 79)); wrong != "" {
				t.Error(c.name, i, wrong)
			}
		}
	}
}

// TestOneMapTwice: the same list may be handed in on both sides.
func TestOneMapTwice(t *testing.T) {
	m := roomy([]api.Piece{told(0, 2, 1), told(2, 9, 3)})
	was := slices.Clone(probe.Whole(m))
	for _, how := range hows() {
		got, e := imap.Merge(m, m, how)
		want := slices.Clone(was[:2])
		if how == api.CSum {
			want = []api.Piece{told(0, 2, 2), told(2, 9, 6)}
		}
		expect(t, how, got, want, e, api.OK)
		spoil(got)
		if !slices.Equal(probe.Whole(m), was) {
			t.Error(how, "what was handed in is changed, or shared")
		}
	}
}

// TestSetsAreLeft: Cut and Keep don't change their set, nor the room behind it.
func TestSetsAreLeft(t *testing.T) {
	for _, c := range setCalls() {
		for i, in := range handedIn() {
			l := probe.Roomy(timesOf(in[1]), span(-7, -3))
			was := slices.Clone(probe.Whole(l))
			c.of(in[0], l)
			if !slices.Equal(probe.Whole(l), was) {
				t.Error(c.name, i, "what was handed in is changed")
			}
		}
	}
}

// TestOthersLeaveTheirMap: the calls that answer no map don't change theirs either.
func TestOthersLeaveTheirMap(t *testing.T) {
	for i, in := range handedIn() {
		m := roomy(in[0])
		was := slices.Clone(probe.Whole(m))
		imap.Check(m)
		imap.At(m, 4)
		first, e := imap.Times(m)
		want := slices.Clone(first)
		probe.Spoil(first, span(77, 78))
		if second, f := imap.Times(m); e != f || !slices.Equal(second, want) {
			t.Error(i, "another answer the second time")
		}
		if !slices.Equal(probe.Whole(m), was) {
			t.Error(i, "what was handed in is changed")
		}
	}
}

// TestWildNumbers: whatever stands in the lists each call answers, and with a map only beside OK.
func TestWildNumbers(t *testing.T) {
	times := []int{math.MinInt, -api.Far - 1, -api.Far, 0, api.Far, api.Far + 1, math.MaxInt}
	values := []int{math.MinInt, -api.Far, api.Far, math.MaxInt}
	var some []api.Piece
	for _, from := range times {
		for _, to := range times {
			for _, v := range values {
				some = append(some, told(from, to, v))
			}
		}
	}
	for _, x := range some {
		for _, y := range some {
			for _, c := range calls() {
				m, e := c.of([]api.Piece{x, y}, []api.Piece{y})
				if e != api.OK && m != nil || imap.Check(m) != api.OK {
					t.Fatal(c.name, x, y, m, e)
				}
				m, e = c.of([]api.Piece{x}, []api.Piece{y})
				if e != api.OK && m != nil || imap.Check(m) != api.OK {
					t.Fatal(c.name, x, y, m, e)
				}
			}
			if l, e := imap.Times([]api.Piece{x, y}); e != api.OK && l != nil {
				t.Fatal(x, y, l, e)
			}
		}
	}
}
