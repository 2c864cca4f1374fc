package ivl_test

import (
	"math"
	"slices"
	"testing"

	"timeweft/api"
	"timeweft/internal/probe"
	"timeweft/ivl"
)

// listCalls are all calls of the package that answer a list, those of one list among them.
func listCalls() []pairCall {
	norm := func(a, _ []api.Ivl) ([]api.Ivl, api.Errno) { return ivl.Norm(a) }
	return append(pairCalls(), pairCall{"Norm", norm, nil})
}

// roomy is a copy of a list with room behind it, in which something stands.
func roomy(l []api.Ivl) []api.Ivl {
	return probe.Roomy(l, span(-7, -3))
}

// spoil writes over a list and the room behind it.
func spoil(l []api.Ivl) {
	probe.Spoil(l, span(77, 78))
}

// handedIn are pairs of lists for which some answer could be a piece of what is handed in.
func handedIn() [][2][]api.Ivl {
	return [][2][]api.Ivl{
		{nil, nil},
		{nil, {span(0, 5)}},
		{{span(0, 5)}, nil},
		{{span(0, 5)}, {}},
		{{span(0, 5)}, {span(0, 5)}},
		{{span(0, 5)}, {span(8, 9)}},
		{{span(8, 9)}, {span(0, 5), span(6, 7)}},
		{{span(0, 2), span(4, 9), span(12, 20)}, {span(1, 5), span(7, 14)}},
		{{span(5, 9), span(1, 5), span(3, 3)}, {span(2, 1)}},
		{comb(0, api.MaxPieces), comb(1, api.MaxPieces)},
		{comb(0, api.MaxPieces), comb(900, api.MaxPieces)},
	}
}

// TestMemory: what is handed in stays as it is, and what is answered is the caller's alone.
func TestMemory(t *testing.T) {
	for _, c := range listCalls() {
		for i, in := range handedIn() {
			if wrong := probe.Sharing(c.of, in[0], in[1], span(-7, -3), span(77, 78)); wrong != "" {
				t.Error(c.name, i, wrong)
			}
		}
	}
}

// TestOneListTwice: the same list may be handed in on both sides.
func TestOneListTwice(t *testing.T) {
	l := roomy([]api.Ivl{span(0, 2), span(4, 9)})
	was := slices.Clone(probe.Whole(l))
	for _, c := range pairCalls() {
		got, e := c.of(l, l)
		if e != api.OK || !slices.Equal(got, setOf(c.bits(timesOf(was[:2]), timesOf(was[:2])))) {
			t.Error(c.name, got, e)
		}
		spoil(got)
		if !slices.Equal(probe.Whole(l), was) {
			t.Error(c.name, "what was handed in is changed, or shared")
		}
	}
}

// TestOthersLeaveTheirList: the calls that answer no list don't change theirs either.
func TestOthersLeaveTheirList(t *testing.T) {
	for i, in := range handedIn() {
		l := roomy(in[0])
		was := slices.Clone(probe.Whole(l))
		ivl.Check(l)
		ivl.Has(l, 4)
		ivl.Size(l)
		if !slices.Equal(probe.Whole(l), was) {
			t.Error(i, "what was handed in is changed")
		}
	}
}

// TestWildNumbers: whatever stands in the lists each call answers, and a list only beside OK.
func TestWildNumbers(t *testing.T) {
	wild := []int{math.MinInt, -api.Inf, -api.Far - 1, -api.Far, 0, api.Far, api.Far + 1, api.Inf, math.MaxInt}
	var spans []api.Ivl
	for _, from := range wild {
		for _, to := range wild {
			spans = append(spans, span(from, to))
		}
	}
	for _, x := range spans {
		for _, y := range spans {
			for _, c := range listCalls() {
				l, e := c.of([]api.Ivl{x, y}, []api.Ivl{y, x})
				if e != api.OK && l != nil || ivl.Check(l) != api.OK {
					t.Fatal(c.name, x, y, l, e)
				}
			}
			if n, e := ivl.Size([]api.Ivl{x, y}); n < 0 || e != api.OK && n != 0 {
				t.Fatal(x, y, n, e)
			}
			for _, at := range wild {
				want := x.From <= at && at < x.To || y.From <= at && at < y.To
				if ivl.Has([]api.Ivl{x, y}, at) != want {
					t.Fatal(x, y, at)
				}
			}
		}
	}
}
