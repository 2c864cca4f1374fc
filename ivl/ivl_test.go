package ivl_test

import (
	"math"
	"slices"
	"testing"

	"timeweft/api"
	"timeweft/ivl"
)

// span is short for one interval.
func span(from, to int) api.Ivl {
	return api.Ivl{From: from, To: to}
}

// comb has n intervals of one time each, with a gap of one time between, from a time on.
func comb(from, n int) []api.Ivl {
	var l []api.Ivl
	for i := range n {
		l = append(l, span(from+2*i, from+2*i+1))
	}
	return l
}

// setOf is the one list of the times whose bits are set.
func setOf(times uint) []api.Ivl {
	var l []api.Ivl
	for t := 0; times>>t != 0; t++ {
		if times>>t&1 == 0 {
			continue
		}
		if n := len(l); n > 0 && l[n-1].To == t {
			l[n-1].To++
			continue
		}
		l = append(l, span(t, t+1))
	}
	return l
}

type pairCall struct {
	name string
	of   func(a, b []api.Ivl) ([]api.Ivl, api.Errno)
	bits func(a, b uint) uint
}

func pairCalls() []pairCall {
	return []pairCall{
		{"Union", ivl.Union, func(a, b uint) uint { return a | b }},
		{"Meet", ivl.Meet, func(a, b uint) uint { return a & b }},
		{"Minus", ivl.Minus, func(a, b uint) uint { return a &^ b }},
	}
}

// wrongSet is a list that Check refuses, with its error.
type wrongSet struct {
	name string
	list []api.Ivl
	want api.Errno
}

// farOff are lists that Norm refuses as well.
func farOff() []wrongSet {
	return []wrongSet{
		{"201 intervals", comb(0, api.MaxPieces+1), api.ErrLarge},
		{"201 intervals that are no set", make([]api.Ivl, api.MaxPieces+1), api.ErrLarge},
		{"201 intervals too far off", slices.Repeat([]api.Ivl{span(math.MinInt, math.MaxInt)}, api.MaxPieces+1), api.ErrLarge},
		{"From too low", []api.Ivl{span(-api.Far-1, 0)}, api.ErrForm},
		{"From too high", []api.Ivl{span(api.Far+1, 0)}, api.ErrForm},
		{"To too low", []api.Ivl{span(0, -api.Far-1)}, api.ErrForm},
		{"To too high", []api.Ivl{span(0, api.Far+1)}, api.ErrForm},
		{"the second one's To too high", []api.Ivl{span(0, 1), span(2, api.Far+1)}, api.ErrForm},
		{"the least and the greatest numbers", []api.Ivl{span(math.MinInt, math.MaxInt)}, api.ErrForm},
		{"the greatest and the least numbers", []api.Ivl{span(math.MaxInt, math.MinInt)}, api.ErrForm},
	}
}

// wrongSets are lists that Check refuses.
func wrongSets() []wrongSet {
	return append(farOff(),
		wrongSet{"To at From", []api.Ivl{span(1, 1)}, api.ErrForm},
		wrongSet{"To below From", []api.Ivl{span(2, 1)}, api.ErrForm},
		wrongSet{"the second one empty", []api.Ivl{span(0, 1), span(3, 3)}, api.ErrForm},
		wrongSet{"two that touch", []api.Ivl{span(1, 3), span(3, 4)}, api.ErrForm},
		wrongSet{"two that overlap", []api.Ivl{span(1, 3), span(2, 4)}, api.ErrForm},
		wrongSet{"two that fall", []api.Ivl{span(5, 6), span(1, 2)}, api.ErrForm},
		wrongSet{"the last two touch", []api.Ivl{span(0, 1), span(2, 3), span(3, 4)}, api.ErrForm},
	)
}

// rightSets are sets, those at the edges among them.
func rightSets() [][]api.Ivl {
	return [][]api.Ivl{
		nil,
		{},
		{span(0, 1)},
		{span(1, 3), span(4, 5)},
		{span(-api.Far, api.Far)},
		{span(-api.Far, -api.Far+1), span(api.Far-1, api.Far)},
		comb(0, api.MaxPieces),
		comb(api.Far-2*api.MaxPieces+1, api.MaxPieces),
	}
}

func TestCheck(t *testing.T) {
	for _, l := range rightSets() {
		if e := ivl.Check(l); e != api.OK {
			t.Error(l, e)
		}
	}
	for _, w := range wrongSets() {
		if e := ivl.Check(w.list); e != w.want {
			t.Error(w.name, e)
		}
	}
}

func TestNormOfWrongLists(t *testing.T) {
	for _, w := range farOff() {
		if l, e := ivl.Norm(w.list); e != w.want || l != nil {
			t.Error(w.name, l, e)
		}
	}
}

func TestNormLeavesSets(t *testing.T) {
	for _, l := range rightSets() {
		if got, e := ivl.Norm(l); e != api.OK || !slices.Equal(got, l) {
			t.Error(l, got, e)
		}
	}
}

func TestNormAtTheEdges(t *testing.T) {
	for i, x := range []struct{ list, want []api.Ivl }{
		{[]api.Ivl{span(5, 9), span(1, 5)}, []api.Ivl{span(1, 9)}},
		{[]api.Ivl{span(api.Far, -api.Far)}, nil},
		{[]api.Ivl{span(api.Far, api.Far), span(-api.Far, -api.Far)}, nil},
		{[]api.Ivl{span(0, api.Far), span(-api.Far, 0)}, []api.Ivl{span(-api.Far, api.Far)}},
		{make([]api.Ivl, api.MaxPieces), nil},
		{slices.Repeat([]api.Ivl{span(3, 4)}, api.MaxPieces), []api.Ivl{span(3, 4)}},
		{append(comb(1, 100), comb(0, 100)...), []api.Ivl{span(0, 200)}},
		{append(comb(200, 100), comb(0, 100)...), comb(0, 200)},
	} {
		if got, e := ivl.Norm(x.list); e != api.OK || !slices.Equal(got, x.want) {
			t.Error(i, got, e)
		}
	}
}

// TestNormOfSmallLists goes through every list of three intervals within the times 0 to 5.
func TestNormOfSmallLists(t *testing.T) {
	var spans []api.Ivl
	for from := range 6 {
		for to := range 6 {
			spans = append(spans, span(from, to))
		}
	}
	for _, x := range spans {
		for _, y := range spans {
			for _, z := range spans {
				l := []api.Ivl{x, y, z}
				got, e := ivl.Norm(l)
				if e != api.OK || !slices.Equal(got, setOf(timesOf(l))) {
					t.Fatal(l, got, e)
				}
			}
		}
	}
}

// timesOf undoes setOf, of any list within the times 0 to 63.
func timesOf(l []api.Ivl) uint {
	times := uint(0)
	for _, v := range l {
		for t := v.From; t < v.To; t++ {
			times |= 1 << t
		}
	}
	return times
}

// TestPairsOfSmallSets goes through every two sets of the times 0 to 6.
func TestPairsOfSmallSets(t *testing.T) {
	for _, c := range pairCalls() {
		for a := range uint(1 << 7) {
			for b := range uint(1 << 7) {
				got, e := c.of(setOf(a), setOf(b))
				if e != api.OK || !slices.Equal(got, setOf(c.bits(a, b))) {
					t.Fatal(c.name, setOf(a), setOf(b), got, e)
				}
			}
		}
	}
}

func TestPairsOfWrongSets(t *testing.T) {
	right := []api.Ivl{span(0, 1)}
	for _, c := range pairCalls() {
		for _, w := range wrongSets() {
			if l, e := c.of(w.list, right); e != w.want || l != nil {
				t.Error(c.name, "a:", w.name, l, e)
			}
			if l, e := c.of(right, w.list); e != w.want || l != nil {
				t.Error(c.name, "b:", w.name, l, e)
			}
			for _, v := range wrongSets() {
				if l, e := c.of(w.list, v.list); e != w.want || l != nil {
					t.Error(c.name, w.name, v.name, l, e)
				}
			}
		}
	}
}

func TestPairsAtTheEdges(t *testing.T) {
	whole := []api.Ivl{span(-api.Far, api.Far)}
	low, high := []api.Ivl{span(-api.Far, 0)}, []api.Ivl{span(0, api.Far)}
	for i, x := range []struct {
		of         func(a, b []api.Ivl) ([]api.Ivl, api.Errno)
		a, b, want []api.Ivl
	}{
		{ivl.Union, low, high, whole},
		{ivl.Union, high, low, whole},
		{ivl.Meet, low, high, nil},
		{ivl.Meet, whole, high, high},
		{ivl.Minus, whole, low, high},
		{ivl.Minus, whole, high, low},
		{ivl.Minus, whole, whole, nil},
		{ivl.Minus, nil, whole, nil},
	} {
		if got, e := x.of(x.a, x.b); e != api.OK || !slices.Equal(got, x.want) {
			t.Error(i, got, e)
		}
	}
}

// TestPairsOfManyIntervals: 200 intervals are told, 201 are not; what counts is the set that comes of it.
func TestPairsOfManyIntervals(t *testing.T) {
	const most = api.MaxPieces
	wide := []api.Ivl{span(-1, 2*most)}
	halves := []api.Ivl{span(-1, 100), span(101, 2*most)}
	for i, x := range []struct {
		of         func(a, b []api.Ivl) ([]api.Ivl, api.Errno)
		a, b, want []api.Ivl
		err        api.Errno
	}{
		{ivl.Union, comb(0, 100), comb(200, 100), comb(0, most), api.OK},
		{ivl.Union, comb(0, most), comb(0, most), comb(0, most), api.OK},
		{ivl.Union, comb(0, most), comb(1, most), []api.Ivl{span(0, 2*most)}, api.OK},
		{ivl.Union, comb(0, most), []api.Ivl{span(2*most, 2*most+1)}, nil, api.ErrLarge},
		{ivl.Union, comb(0, most), comb(2*most, most), nil, api.ErrLarge},
		{ivl.Meet, wide, comb(0, most), comb(0, most), api.OK},
		{ivl.Meet, comb(0, most), comb(1, most), nil, api.OK},
		{ivl.Meet, threes(0, 101), threes(2, 100), comb(2, most), api.OK},
		{ivl.Meet, threes(0, 101), threes(2, 101), nil, api.ErrLarge},
		{ivl.Meet, halves, []api.Ivl{span(0, most)}, []api.Ivl{span(0, 100), span(101, most)}, api.OK},
		{ivl.Minus, []api.Ivl{span(0, 2*most-1)}, comb(1, most-1), comb(0, most), api.OK},
		{ivl.Minus, wide, comb(0, most), nil, api.ErrLarge},
		{ivl.Minus, comb(0, most), comb(0, most), nil, api.OK},
	} {
		got, e := x.of(x.a, x.b)
		if e != x.err || !slices.Equal(got, x.want) {
			t.Error(i, got, e)
		}
		if e != api.OK && got != nil {
			t.Error(i, "a list beside an error")
		}
	}
}

// threes has n intervals of three times each, with a gap of one time between: each of one such list meets two of another that is shifted by two.
func threes(from, n int) []api.Ivl {
	var l []api.Ivl
	for i := range n {
		l = append(l, span(from+4*i, from+4*i+3))
	}
	return l
}

func TestHas(t *testing.T) {
	set := []api.Ivl{span(1, 3), span(5, 6)}
	for at, want := range []bool{false, true, true, false, false, true, false} {
		if ivl.Has(set, at) != want {
			t.Error(at)
		}
	}
	if ivl.Has(nil, 0) || ivl.Has([]api.Ivl{}, 0) {
		t.Error("an empty list has a time")
	}
}

// TestHasOfAnyList: Has asks no Check of its list.
func TestHasOfAnyList(t *testing.T) {
	for i, x := range []struct {
		list []api.Ivl
		at   int
		want bool
	}{
		{[]api.Ivl{span(3, 3)}, 3, false},
		{[]api.Ivl{span(5, 1)}, 3, false},
		{[]api.Ivl{span(5, 9), span(1, 4)}, 3, true},
		{[]api.Ivl{span(0, 5), span(3, 9)}, 8, true},
		{[]api.Ivl{span(math.MinInt, math.MaxInt)}, math.MinInt, true},
		{[]api.Ivl{span(math.MinInt, math.MaxInt)}, math.MaxInt - 1, true},
		{[]api.Ivl{span(math.MinInt, math.MaxInt)}, math.MaxInt, false},
		{[]api.Ivl{span(math.MaxInt, math.MinInt)}, 0, false},
		{comb(0, 1000), 1998, true},
		{comb(0, 1000), 1999, false},
	} {
		if ivl.Has(x.list, x.at) != x.want {
			t.Error(i, x.at)
		}
	}
}

func TestSize(t *testing.T) {
	for i, x := range []struct {
		list []api.Ivl
		want int
	}{
		{nil, 0},
		{[]api.Ivl{}, 0},
		{[]api.Ivl{span(4, 5)}, 1},
		{[]api.Ivl{span(1, 9), span(20, 22)}, 10},
		{[]api.Ivl{span(-api.Far, api.Far)}, 2 * api.Far},
		{comb(-200, api.MaxPieces), api.MaxPieces},
	} {
		if n, e := ivl.Size(x.list); e != api.OK || n != x.want {
			t.Error(i, n, e)
		}
	}
	for _, w := range wrongSets() {
		if n, e := ivl.Size(w.list); e != w.want || n != 0 {
			t.Error(w.name, n, e)
		}
	}
}

func TestSpans(t *testing.T) {
	for i, x := range []struct {
		times []int
		want  []api.Ivl
	}{
		{nil, nil},
		{[]int{3}, nil},
		{[]int{3, 3}, nil},
		{[]int{9, 1, 5, 1, 9}, []api.Ivl{{From: 1, To: 5}, {From: 5, To: 9}}},
		{[]int{api.Far, -api.Far}, []api.Ivl{{From: -api.Far, To: api.Far}}},
	} {
		was := slices.Clone(x.times)
		if got := ivl.Spans(x.times); !slices.Equal(got, x.want) || !slices.Equal(x.times, was) {
			t.Error(i, got, x.times)
		}
	}
}
