package imap_test

import (
	"math"
	"slices"
	"testing"

	"timeweft/api"
	"timeweft/imap"
)

// told is short for one piece.
func told(from, to, value int) api.Piece {
	return api.Piece{From: from, To: to, Value: value}
}

// span is short for one interval.
func span(from, to int) api.Ivl {
	return api.Ivl{From: from, To: to}
}

// stairs has n pieces of one time each that touch, with values that rise from 0, from a time on.
func stairs(from, n int) []api.Piece {
	var m []api.Piece
	for i := range n {
		m = append(m, told(from+i, from+i+1, i))
	}
	return m
}

// dots has n pieces of one time each, all of one value, with a gap of one time between, from a time on.
func dots(from, n, value int) []api.Piece {
	var m []api.Piece
	for i := range n {
		m = append(m, told(from+2*i, from+2*i+1, value))
	}
	return m
}

// timesOf are the intervals of pieces, as they stand.
func timesOf(m []api.Piece) []api.Ivl {
	var l []api.Ivl
	for _, p := range m {
		l = append(l, span(p.From, p.To))
	}
	return l
}

// wrongMap is a list that Check refuses, with its error.
type wrongMap struct {
	name string
	list []api.Piece
	want api.Errno
}

func wrongMaps() []wrongMap {
	return []wrongMap{
		{"201 pieces", stairs(0, api.MaxPieces+1), api.ErrLarge},
		{"201 pieces that are no map", make([]api.Piece, api.MaxPieces+1), api.ErrLarge},
		{"201 pieces too far off", slices.Repeat([]api.Piece{told(math.MinInt, math.MaxInt, math.MaxInt)}, api.MaxPieces+1), api.ErrLarge},
		{"From too low", []api.Piece{told(-api.Far-1, 0, 0)}, api.ErrForm},
		{"From too high", []api.Piece{told(api.Far+1, api.Far+2, 0)}, api.ErrForm},
		{"To too low", []api.Piece{told(-api.Far-2, -api.Far-1, 0)}, api.ErrForm},
		{"To too high", []api.Piece{told(0, api.Far+1, 0)}, api.ErrForm},
		{"Value too low", []api.Piece{told(0, 1, -api.Far-1)}, api.ErrForm},
		{"Value too high", []api.Piece{told(0, 1, api.Far+1)}, api.ErrForm},
		{"the second one's Value too high", []api.Piece{told(0, 1, 0), told(1, 2, api.Far+1)}, api.ErrForm},
		{"To at From", []api.Piece{told(1, 1, 0)}, api.ErrForm},
		{"To below From", []api.Piece{told(2, 1, 0)}, api.ErrForm},
		{"the second one empty", []api.Piece{told(0, 1, 0), told(3, 3, 1)}, api.ErrForm},
		{"two of one value that touch", []api.Piece{told(1, 2, 0), told(2, 3, 0)}, api.ErrForm},
		{"two of one value that overlap", []api.Piece{told(1, 3, 5), told(2, 4, 5)}, api.ErrForm},
		{"two of two values that overlap", []api.Piece{told(1, 3, 5), told(2, 4, 6)}, api.ErrForm},
		{"two that fall", []api.Piece{told(5, 6, 1), told(1, 2, 2)}, api.ErrForm},
		{"two that fall and touch", []api.Piece{told(5, 6, 1), told(4, 5, 2)}, api.ErrForm},
		{"the last two touch", []api.Piece{told(0, 1, 7), told(2, 3, 7), told(3, 4, 7)}, api.ErrForm},
		{"the least and the greatest numbers", []api.Piece{told(math.MinInt, math.MaxInt, 0)}, api.ErrForm},
	}
}

// rightMaps are maps, those at the edges among them.
func rightMaps() [][]api.Piece {
	return [][]api.Piece{
		nil,
		{},
		{told(0, 1, 0)},
		{told(1, 3, 5), told(3, 4, 7), told(4, 9, 5)},
		{told(1, 3, 5), told(4, 9, 5)},
		{told(-api.Far, api.Far, api.Far)},
		{told(-api.Far, 0, -api.Far), told(0, api.Far, api.Far)},
		stairs(0, api.MaxPieces),
		dots(api.Far-2*api.MaxPieces+1, api.MaxPieces, -1),
	}
}

func TestCheck(t *testing.T) {
	for _, m := range rightMaps() {
		if e := imap.Check(m); e != api.OK {
			t.Error(m, e)
		}
	}
	for _, w := range wrongMaps() {
		if e := imap.Check(w.list); e != w.want {
			t.Error(w.name, e)
		}
	}
}

func TestAt(t *testing.T) {
	m := []api.Piece{told(1, 3, 5), told(3, 4, 7), told(6, 8, -2)}
	want := []struct {
		value int
		ok    bool
	}{{0, false}, {5, true}, {5, true}, {7, true}, {0, false}, {0, false}, {-2, true}, {-2, true}, {0, false}}
	for at, w := range want {
		if v, ok := imap.At(m, at); v != w.value || ok != w.ok {
			t.Error(at, v, ok)
		}
	}
}

// TestAtOfAnyList: At asks no Check of its list, and the first piece that has the time counts.
func TestAtOfAnyList(t *testing.T) {
	for i, x := range []struct {
		list  []api.Piece
		at    int
		value int
		ok    bool
	}{
		{nil, 0, 0, false},
		{[]api.Piece{}, 0, 0, false},
		{[]api.Piece{told(3, 3, 9)}, 3, 0, false},
		{[]api.Piece{told(5, 1, 9)}, 3, 0, false},
		{[]api.Piece{told(0, 5, 1), told(3, 9, 2)}, 4, 1, true},
		{[]api.Piece{told(3, 9, 2), told(0, 5, 1)}, 4, 2, true},
		{[]api.Piece{told(3, 9, 2), told(0, 5, 1)}, 2, 1, true},
		{[]api.Piece{told(4, 4, 3), told(4, 5, 8)}, 4, 8, true},
		{[]api.Piece{told(math.MinInt, math.MaxInt, math.MinInt)}, math.MinInt, math.MinInt, true},
		{[]api.Piece{told(math.MinInt, math.MaxInt, math.MaxInt)}, math.MaxInt - 1, math.MaxInt, true},
		{[]api.Piece{told(math.MinInt, math.MaxInt, 1)}, math.MaxInt, 0, false},
		{[]api.Piece{told(math.MaxInt, math.MinInt, 1)}, 0, 0, false},
		{stairs(0, 1000), 999, 999, true},
		{stairs(0, 1000), 1000, 0, false},
	} {
		if v, ok := imap.At(x.list, x.at); v != x.value || ok != x.ok {
			t.Error(i, v, ok)
		}
	}
}

// expect reports an answer that isn't the one that is wanted, or a list beside an error.
func expect(t *testing.T, what any, got, want []api.Piece, e, err api.Errno) {
	t.Helper()
	if e != err || !slices.Equal(got, want) || e != api.OK && got != nil {
		t.Error(what, got, e)
	}
}

func TestPutAtTheEdges(t *testing.T) {
	const most = api.MaxPieces
	two := []api.Piece{told(1, 3, 5), told(4, 6, 7)}
	full := dots(0, most, 5)
	for i, x := range []struct {
		m    []api.Piece
		p    api.Piece
		want []api.Piece
		err  api.Errno
	}{
		{nil, told(1, 9, 5), []api.Piece{told(1, 9, 5)}, api.OK},
		{two, told(2, 5, 0), []api.Piece{told(1, 2, 5), told(2, 5, 0), told(5, 6, 7)}, api.OK},
		{two, told(3, 4, 5), []api.Piece{told(1, 4, 5), told(4, 6, 7)}, api.OK},
		{two, told(3, 4, 7), []api.Piece{told(1, 3, 5), told(3, 6, 7)}, api.OK},
		{two, told(-api.Far, api.Far, -api.Far), []api.Piece{told(-api.Far, api.Far, -api.Far)}, api.OK},
		{two, told(2, 2, 9), two, api.OK},
		{two, told(5, 2, 9), two, api.OK},
		{two, told(api.Far, -api.Far, api.Far), two, api.OK},
		{full, told(0, 1, 6), append([]api.Piece{told(0, 1, 6)}, full[1:]...), api.OK},
		{full, told(1, 2, 5), append([]api.Piece{told(0, 3, 5)}, full[2:]...), api.OK},
		{full, told(1, 1, 6), full, api.OK},
		{full, told(1, 2, 6), nil, api.ErrLarge},
		{full, told(2*most, 2*most+1, 5), nil, api.ErrLarge},
		{full[1:], told(0, 1, 5), full, api.OK},
		{[]api.Piece{told(0, 9, 1)}, told(-api.Far, api.Far+1, 1), nil, api.ErrForm},
	} {
		got, e := imap.Put(x.m, x.p)
		expect(t, i, got, x.want, e, x.err)
	}
}

// TestPutWithin: 199 pieces, of which one is put asunder, are 201.
func TestPutWithin(t *testing.T) {
	m := append([]api.Piece{told(-9, -1, 5)}, dots(0, api.MaxPieces-2, 5)...)
	got, e := imap.Put(m, told(-9, -5, 6))
	expect(t, "at the side", got, append([]api.Piece{told(-9, -5, 6), told(-5, -1, 5)}, m[1:]...), e, api.OK)
	got, e = imap.Put(m, told(-6, -5, 6))
	expect(t, "in the middle", got, nil, e, api.ErrLarge)
	got, e = imap.Put(m[:len(m)-1], told(-6, -5, 6))
	expect(t, "of fewer", got, append([]api.Piece{told(-9, -6, 5), told(-6, -5, 6), told(-5, -1, 5)}, m[1:len(m)-1]...), e, api.OK)
}

// wrongPieces are those that Put refuses.
func wrongPieces() []api.Piece {
	const low, high = -api.Far - 1, api.Far + 1
	return []api.Piece{
		told(low, 0, 0), told(high, 0, 0), told(0, low, 0), told(0, high, 0), told(0, 1, low), told(0, 1, high),
		told(1, 0, high), told(1, 1, low),
		told(math.MinInt, 0, 0), told(0, math.MaxInt, 0), told(0, 1, math.MinInt), told(math.MaxInt, math.MinInt, math.MaxInt),
	}
}

func TestPutOfWrongOnes(t *testing.T) {
	for _, p := range wrongPieces() {
		for _, m := range rightMaps() {
			got, e := imap.Put(m, p)
			expect(t, p, got, nil, e, api.ErrForm)
		}
	}
	for _, w := range wrongMaps() {
		for _, p := range append(wrongPieces(), told(0, 1, 2), told(3, 3, 3)) {
			got, e := imap.Put(w.list, p)
			expect(t, w.name, got, nil, e, w.want)
		}
	}
}

// setCall is Cut or Keep.
type setCall struct {
	name  string
	of    func(m []api.Piece, l []api.Ivl) ([]api.Piece, api.Errno)
	keeps bool
}

func setCalls() []setCall {
	return []setCall{{"Cut", imap.Cut, false}, {"Keep", imap.Keep, true}}
}

func TestCutAndKeepAtTheEdges(t *testing.T) {
	const most = api.MaxPieces
	whole := []api.Ivl{span(-api.Far, api.Far)}
	wide := []api.Piece{told(-api.Far, api.Far, 4)}
	full := dots(0, most, 5)
	long := []api.Piece{told(-1, 2*most, 5)}
	for i, x := range []struct {
		of   func(m []api.Piece, l []api.Ivl) ([]api.Piece, api.Errno)
		m    []api.Piece
		l    []api.Ivl
		want []api.Piece
		err  api.Errno
	}{
		{imap.Cut, nil, whole, nil, api.OK},
		{imap.Keep, nil, whole, nil, api.OK},
		{imap.Cut, wide, nil, wide, api.OK},
		{imap.Keep, wide, nil, nil, api.OK},
		{imap.Cut, wide, whole, nil, api.OK},
		{imap.Keep, wide, whole, wide, api.OK},
		{imap.Cut, full, nil, full, api.OK},
		{imap.Keep, full, whole, full, api.OK},
		{imap.Cut, long, timesOf(full), nil, api.ErrLarge},
		{imap.Cut, long, timesOf(full[1:]), append([]api.Piece{told(-1, 2, 5)}, dots(3, most-1, 5)...), api.OK},
		{imap.Keep, long, timesOf(full), full, api.OK},
		{imap.Cut, append([]api.Piece{told(-9, -5, 5)}, full[1:]...), []api.Ivl{span(-8, -7)}, nil, api.ErrLarge},
		{imap.Keep, []api.Piece{told(0, 1, 5), told(1, 3*most, 6)}, append([]api.Ivl{span(0, 2)}, timesOf(dots(3, most-1, 0))...), nil, api.ErrLarge},
		{imap.Keep, []api.Piece{told(0, 1, 5), told(1, 3*most, 6)}, append([]api.Ivl{span(0, 2)}, timesOf(dots(3, most-2, 0))...), append([]api.Piece{told(0, 1, 5), told(1, 2, 6)}, dots(3, most-2, 6)...), api.OK},
	} {
		got, e := x.of(x.m, x.l)
		expect(t, i, got, x.want, e, x.err)
	}
}

func TestCutAndKeepOfWrongOnes(t *testing.T) {
	wrong := []struct {
		list []api.Ivl
		want api.Errno
	}{
		{timesOf(dots(0, api.MaxPieces+1, 0)), api.ErrLarge},
		{[]api.Ivl{span(0, 0)}, api.ErrForm},
		{[]api.Ivl{span(0, 1), span(1, 2)}, api.ErrForm},
		{[]api.Ivl{span(0, api.Far+1)}, api.ErrForm},
		{[]api.Ivl{span(math.MinInt, math.MaxInt)}, api.ErrForm},
	}
	for _, c := range setCalls() {
		for i, l := range wrong {
			for _, m := range rightMaps() {
				got, e := c.of(m, l.list)
				expect(t, i, got, nil, e, l.want)
			}
			for _, m := range wrongMaps() {
				got, e := c.of(m.list, l.list)
				expect(t, m.name, got, nil, e, m.want)
			}
		}
		for _, m := range wrongMaps() {
			got, e := c.of(m.list, []api.Ivl{span(0, 1)})
			expect(t, m.name, got, nil, e, m.want)
		}
	}
}

// hows are the ways to put together.
func hows() []int {
	return []int{api.CMin, api.CMax, api.CSum}
}

func TestMergeAtTheEdges(t *testing.T) {
	const most, far = api.MaxPieces, api.Far
	full := dots(0, most, 5)
	high, low := []api.Piece{told(-far, far, far)}, []api.Piece{told(-far, far, -far)}
	for i, x := range []struct {
		a, b []api.Piece
		how  int
		want []api.Piece
		err  api.Errno
	}{
		{high, high, api.CMin, high, api.OK},
		{high, high, api.CMax, high, api.OK},
		{high, low, api.CMin, low, api.OK},
		{low, high, api.CMax, high, api.OK},
		{high, low, api.CSum, []api.Piece{told(-far, far, 0)}, api.OK},
		{high, nil, api.CSum, high, api.OK},
		{nil, low, api.CSum, low, api.OK},
		{[]api.Piece{told(0, 5, far-1)}, []api.Piece{told(4, 9, 1)}, api.CSum, []api.Piece{told(0, 4, far-1), told(4, 5, far), told(5, 9, 1)}, api.OK},
		{[]api.Piece{told(0, 5, far)}, []api.Piece{told(4, 9, 1)}, api.CSum, nil, api.ErrForm},
		{[]api.Piece{told(0, 5, far)}, []api.Piece{told(5, 9, 1)}, api.CSum, []api.Piece{told(0, 5, far), told(5, 9, 1)}, api.OK},
		{[]api.Piece{told(0, 5, 1-far)}, []api.Piece{told(0, 5, -1)}, api.CSum, []api.Piece{told(0, 5, -far)}, api.OK},
		{[]api.Piece{told(0, 5, -far)}, []api.Piece{told(0, 1, -1)}, api.CSum, nil, api.ErrForm},
		{low, low, api.CSum, nil, api.ErrForm},
		{full, full, api.CSum, dots(0, most, 10), api.OK},
		{full[:100], full[100:], api.CMin, full, api.OK},
		{full, dots(1, most, 5), api.CMax, []api.Piece{told(0, 2*most, 5)}, api.OK},
		{full, dots(1, most, 6), api.CMax, nil, api.ErrLarge},
		{full, dots(2*most, 1, 5), api.CSum, nil, api.ErrLarge},
		{full, dots(2*most, most, 5), api.CMin, nil, api.ErrLarge},
		{full, []api.Piece{told(2*most-2, 2*most, far)}, api.CMax, append(slices.Clone(full[:most-1]), told(2*most-2, 2*most, far)), api.OK},
		{full, []api.Piece{told(2*most-2, 2*most, far)}, api.CMin, nil, api.ErrLarge},
		{full, []api.Piece{told(2*most-2, 2*most, far)}, api.CSum, nil, api.ErrForm},
		{full, append(dots(1, most-1, -far), told(2*most-2, 2*most-1, far)), api.CSum, nil, api.ErrForm},
	} {
		got, e := imap.Merge(x.a, x.b, x.how)
		expect(t, i, got, x.want, e, x.err)
	}
}

// TestSumsTooFarComeFirst: a sum that is too far off is told wherever among too many pieces it stands.
func TestSumsTooFarComeFirst(t *testing.T) {
	a := dots(0, api.MaxPieces, 1)
	for i := range a {
		b := dots(1, api.MaxPieces-1, 2)
		if _, e := imap.Merge(a, b, api.CSum); e != api.ErrLarge {
			t.Fatal(e)
		}
		b = slices.Insert(b, i, told(2*i, 2*i+1, api.Far))
		got, e := imap.Merge(a, b, api.CSum)
		expect(t, i, got, nil, e, api.ErrForm)
		got, e = imap.Merge(b, a, api.CSum)
		expect(t, i, got, nil, e, api.ErrForm)
	}
}

func TestMergeOfWrongOnes(t *testing.T) {
	right := []api.Piece{told(0, 1, 2)}
	wrongHows := []int{math.MinInt, -1, 0, 4, 5, math.MaxInt}
	for _, how := range wrongHows {
		for _, m := range rightMaps() {
			got, e := imap.Merge(m, right, how)
			expect(t, how, got, nil, e, api.ErrArg)
		}
	}
	for _, how := range append(wrongHows, hows()...) {
		for _, w := range wrongMaps() {
			got, e := imap.Merge(right, w.list, how)
			expect(t, w.name, got, nil, e, w.want)
			got, e = imap.Merge(w.list, right, how)
			expect(t, w.name, got, nil, e, w.want)
			for _, v := range wrongMaps() {
				got, e = imap.Merge(w.list, v.list, how)
				expect(t, w.name, got, nil, e, w.want)
			}
		}
	}
}

func TestTimes(t *testing.T) {
	for i, x := range []struct {
		m    []api.Piece
		want []api.Ivl
	}{
		{nil, nil},
		{[]api.Piece{}, nil},
		{[]api.Piece{told(1, 3, 5), told(3, 4, 7), told(6, 8, 7)}, []api.Ivl{span(1, 4), span(6, 8)}},
		{[]api.Piece{told(-api.Far, 0, 1), told(0, api.Far, 2)}, []api.Ivl{span(-api.Far, api.Far)}},
		{stairs(0, api.MaxPieces), []api.Ivl{span(0, api.MaxPieces)}},
		{dots(0, api.MaxPieces, 3), timesOf(dots(0, api.MaxPieces, 3))},
	} {
		if got, e := imap.Times(x.m); e != api.OK || !slices.Equal(got, x.want) {
			t.Error(i, got, e)
		}
	}
	for _, w := range wrongMaps() {
		if got, e := imap.Times(w.list); e != w.want || got != nil {
			t.Error(w.name, got, e)
		}
	}
}

// TestBuild: what is told is asked once between each two times, and the list of times is left as it is.
func TestBuild(t *testing.T) {
	changes := []int{8, 0, 4, 2, 4, 6}
	was := slices.Clone(changes)
	var asked []int
	got, e := imap.Build(changes, func(at int) (int, bool) {
		asked = append(asked, at)
		return at / 4, at != 2
	})
	expect(t, "Build", got, []api.Piece{told(0, 2, 0), told(4, 8, 1)}, e, api.OK)
	if !slices.Equal(changes, was) || !slices.Equal(asked, []int{0, 2, 4, 6}) {
		t.Error(changes, asked)
	}
}
