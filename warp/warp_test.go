package warp_test

import (
	"math"
	"slices"
	"testing"

	"timeweft/api"
	"timeweft/warp"
)

const (
	most = api.MaxPieces
	far  = api.Far
)

// told is short for one piece.
func told(from, to, value int) api.Piece {
	return api.Piece{From: from, To: to, Value: value}
}

// sent is short for one message.
func sent(from, to, value int) api.Message {
	return api.Message{From: from, To: to, Value: value}
}

// met is short for a cell against a state.
func met(from, to, state, value int) api.Cell {
	return api.Cell{From: from, To: to, State: state, Has: true, Value: value}
}

// bare is short for a cell against no state.
func bare(from, to, value int) api.Cell {
	return api.Cell{From: from, To: to, Value: value}
}

// dots has n messages of one time each, all of one value, with a gap of one time between, from a time on.
func dots(from, n, value int) []api.Message {
	var l []api.Message
	for i := range n {
		l = append(l, sent(from+2*i, from+2*i+1, value))
	}
	return l
}

// steps has n messages of one time each that touch, with the values 0 and 1 by turns, from a time on.
func steps(from, n int) []api.Message {
	var l []api.Message
	for i := range n {
		l = append(l, sent(from+i, from+i+1, i%2))
	}
	return l
}

// nest has n messages, each one time within the one ahead on both sides, all of one value: 2n - 1 sets of messages.
func nest(n, value int) []api.Message {
	var l []api.Message
	for i := range n {
		l = append(l, sent(i, 2*n-1-i, value))
	}
	return l
}

// pieces has the times and values of messages, as they stand.
func pieces(l []api.Message) []api.Piece {
	var m []api.Piece
	for _, x := range l {
		m = append(m, told(x.From, x.To, x.Value))
	}
	return m
}

// bareCells has a cell for each message, as they stand.
func bareCells(l []api.Message) []api.Cell {
	var r []api.Cell
	for _, x := range l {
		r = append(r, bare(x.From, x.To, x.Value))
	}
	return r
}

// hows are the ways to put together.
func hows() []int {
	return []int{api.CMin, api.CMax, api.CSum}
}

func wrongHows() []int {
	return []int{math.MinInt, -1, 0, 4, 5, math.MaxInt}
}

// rightLists are lists of messages, those at the edges among them.
func rightLists() [][]api.Message {
	return [][]api.Message{
		nil,
		{},
		{sent(0, 1, 0)},
		{sent(-far, far, far), sent(-far, 1-far, -far), sent(far-1, far, 0)},
		{sent(5, 9, 1), sent(1, 5, 1), sent(2, 7, 1), sent(2, 7, 1), sent(5, 9, 2)},
		dots(0, most, 7),
		slices.Repeat([]api.Message{sent(0, 1, 2)}, most),
		nest(most/2, 1),
	}
}

// wrongList is a list that Check refuses, with its error.
type wrongList struct {
	name string
	list []api.Message
	want api.Errno
}

func wrongLists() []wrongList {
	all := []wrongList{
		{"201 messages", dots(0, most+1, 1), api.ErrLarge},
		{"201 messages without times", make([]api.Message, most+1), api.ErrLarge},
		{"201 messages too far off", slices.Repeat([]api.Message{sent(math.MinInt, math.MaxInt, math.MaxInt)}, most+1), api.ErrLarge},
	}
	for _, m := range []api.Message{
		sent(-far-1, 0, 0), sent(far+1, far+2, 0), sent(-far-2, -far-1, 0), sent(0, far+1, 0),
		sent(0, 1, -far-1), sent(0, 1, far+1), sent(0, 1, math.MinInt), sent(0, 1, math.MaxInt),
		sent(1, 1, 0), sent(2, 1, 0), sent(far, far, 0), sent(far, -far, 0),
		sent(math.MinInt, math.MaxInt, 0), sent(math.MaxInt, math.MinInt, 0), sent(math.MinInt, 0, 0), sent(0, math.MaxInt, 0),
	} {
		all = append(all,
			wrongList{"one alone", []api.Message{m}, api.ErrForm},
			wrongList{"the first of 200", append([]api.Message{m}, dots(0, most-1, 1)...), api.ErrForm},
			wrongList{"the last of 200", append(dots(0, most-1, 1), m), api.ErrForm})
	}
	return all
}

func TestCheck(t *testing.T) {
	for i, l := range rightLists() {
		if e := warp.Check(l); e != api.OK {
			t.Error(i, e)
		}
	}
	for _, w := range wrongLists() {
		if e := warp.Check(w.list); e != w.want {
			t.Error(w.name, w.list[0], e)
		}
	}
}

// expect reports an answer that isn't the one that is wanted, or a list beside an error.
func expect[T comparable](t *testing.T, what any, got, want []T, e, err api.Errno) {
	t.Helper()
	if e != err || !slices.Equal(got, want) || e != api.OK && got != nil {
		t.Error(what, got, e)
	}
}

func TestCells(t *testing.T) {
	state := []api.Piece{told(0, 5, 3), told(5, 7, 0), told(8, 9, 0)}
	for i, x := range []struct {
		state []api.Piece
		l     []api.Message
		how   int
		want  []api.Cell
	}{
		{nil, nil, api.CSum, nil},
		{state, nil, api.CMin, nil},
		{[]api.Piece{told(0, 5, 7)}, []api.Message{sent(3, 8, 1)}, api.CMax, []api.Cell{met(3, 5, 7, 1), bare(5, 8, 1)}},
		// A state of 0 is another one than none, with which it shares its number.
		{state, []api.Message{sent(4, 10, 1)}, api.CMin, []api.Cell{met(4, 5, 3, 1), met(5, 7, 0, 1), bare(7, 8, 1), met(8, 9, 0, 1), bare(9, 10, 1)}},
		// Other messages are there, though their values are the same.
		{nil, []api.Message{sent(3, 6, 2), sent(0, 3, 2)}, api.CMax, []api.Cell{bare(0, 3, 2), bare(3, 6, 2)}},
		{nil, []api.Message{sent(0, 9, 2), sent(3, 6, 2)}, api.CMin, []api.Cell{bare(0, 3, 2), bare(3, 6, 2), bare(6, 9, 2)}},
		{nil, []api.Message{sent(0, 9, 2), sent(3, 6, 0)}, api.CSum, []api.Cell{bare(0, 3, 2), bare(3, 6, 2), bare(6, 9, 2)}},
		// Two messages that are alike are two.
		{nil, []api.Message{sent(1, 4, 5), sent(1, 4, 5)}, api.CSum, []api.Cell{bare(1, 4, 10)}},
		{nil, []api.Message{sent(1, 4, 5), sent(1, 4, 5)}, api.CMin, []api.Cell{bare(1, 4, 5)}},
		// Where there is no message there is no cell, and the state may change there.
		{state, []api.Message{sent(9, 11, -1), sent(-3, -1, -2)}, api.CMax, []api.Cell{bare(-3, -1, -2), bare(9, 11, -1)}},
		{state, []api.Message{sent(0, 1, 1), sent(2, 3, 1)}, api.CMax, []api.Cell{met(0, 1, 3, 1), met(2, 3, 3, 1)}},
		// Values below 0 are put together, too.
		{nil, []api.Message{sent(0, 3, -4), sent(1, 3, -6), sent(2, 3, -5)}, api.CMax, []api.Cell{bare(0, 1, -4), bare(1, 2, -4), bare(2, 3, -4)}},
		{nil, []api.Message{sent(0, 3, -4), sent(1, 3, -6), sent(2, 3, -5)}, api.CMin, []api.Cell{bare(0, 1, -4), bare(1, 2, -6), bare(2, 3, -6)}},
		{nil, []api.Message{sent(0, 3, -4), sent(1, 3, -6), sent(2, 3, -5)}, api.CSum, []api.Cell{bare(0, 1, -4), bare(1, 2, -10), bare(2, 3, -15)}},
		{[]api.Piece{told(-far, 0, far), told(0, far, -far)}, []api.Message{sent(-far, far, far)}, api.CSum, []api.Cell{met(-far, 0, far, far), met(0, far, -far, far)}},
	} {
		got, e := warp.Cells(x.state, x.l, x.how)
		expect(t, i, got, x.want, e, api.OK)
	}
}

func TestCountsOfCells(t *testing.T) {
	full := dots(0, most, 7)
	wide := []api.Message{sent(0, 2*most, 7)}
	for i, x := range []struct {
		state []api.Piece
		l     []api.Message
		want  []api.Cell
		err   api.Errno
	}{
		{nil, full, bareCells(full), api.OK},
		{pieces(dots(1, most, 7)), full, bareCells(full), api.OK},
		{nil, steps(0, most), bareCells(steps(0, most)), api.OK},
		// A state that changes within one of 200 messages makes 201 cells.
		{[]api.Piece{told(-9, -5, 1)}, append([]api.Message{sent(-6, -4, 7)}, full[:most-1]...), nil, api.ErrLarge},
		{[]api.Piece{told(-9, -5, 1)}, append([]api.Message{sent(-6, -4, 7)}, full[:most-2]...), append([]api.Cell{met(-6, -5, 1, 7), bare(-5, -4, 7)}, bareCells(full[:most-2])...), api.OK},
		// One message against many pieces.
		{pieces(steps(0, most)), []api.Message{sent(-1, most, 7)}, nil, api.ErrLarge},
		{pieces(full), wide, nil, api.ErrLarge},
		{pieces(full[:most/2]), []api.Message{sent(0, most, 7)}, alternating(most), api.OK},
		{pieces(full[:most/2]), []api.Message{sent(-1, most, 7)}, nil, api.ErrLarge},
		// Cells of nested messages: 2n - 1.
		{nil, nest(most/2+1, 0), nil, api.ErrLarge},
	} {
		for _, how := range hows() {
			got, e := warp.Cells(x.state, x.l, how)
			expect(t, i, got, x.want, e, x.err)
		}
	}
	if got, e := warp.Cells(nil, nest(most/2, 1), api.CSum); e != api.OK || len(got) != most-1 || got[most/2-1] != bare(most/2-1, most/2, most/2) {
		t.Error(got, e)
	}
}

// alternating has n cells of one time each, with and without a state by turns.
func alternating(n int) []api.Cell {
	var r []api.Cell
	for i := range n {
		c := bare(i, i+1, 7)
		if i%2 == 0 {
			c = met(i, i+1, 7, 7)
		}
		r = append(r, c)
	}
	return r
}

// sumCase is a list with what its messages come to as a sum, if no state is there.
type sumCase struct {
	name string
	l    []api.Message
	want []api.Cell
	err  api.Errno
}

func sumCases() []sumCase {
	high, low := slices.Repeat([]api.Message{sent(0, 1, far)}, most/2), slices.Repeat([]api.Message{sent(0, 1, -far)}, most/2)
	return []sumCase{
		{"the greatest", []api.Message{sent(0, 2, far-1), sent(1, 2, 1)}, []api.Cell{bare(0, 1, far-1), bare(1, 2, far)}, api.OK},
		{"one too many", []api.Message{sent(0, 2, far), sent(1, 2, 1)}, nil, api.ErrForm},
		{"the least", []api.Message{sent(0, 2, 1-far), sent(0, 2, -1)}, []api.Cell{bare(0, 2, -far)}, api.OK},
		{"one too few", []api.Message{sent(0, 2, -1), sent(0, 2, -far)}, nil, api.ErrForm},
		{"above on the way", []api.Message{sent(0, 1, far), sent(0, 1, far), sent(0, 1, -far)}, []api.Cell{bare(0, 1, far)}, api.OK},
		{"below on the way", []api.Message{sent(0, 1, -far), sent(0, 1, -far), sent(0, 1, far)}, []api.Cell{bare(0, 1, -far)}, api.OK},
		{"far above on the way", append(slices.Clone(high), low...), []api.Cell{bare(0, 1, 0)}, api.OK},
		{"far below on the way", append(slices.Clone(low), high...), []api.Cell{bare(0, 1, 0)}, api.OK},
		{"far above", append(slices.Clone(high), high...), nil, api.ErrForm},
		{"far below", append(slices.Clone(low), low...), nil, api.ErrForm},
		{"at other times", []api.Message{sent(0, 1, far), sent(1, 2, far)}, []api.Cell{bare(0, 1, far), bare(1, 2, far)}, api.OK},
	}
}

func TestSums(t *testing.T) {
	for _, x := range sumCases() {
		got, e := warp.Cells(nil, x.l, api.CSum)
		expect(t, x.name, got, x.want, e, x.err)
		// The state isn't put together with the messages.
		got, e = warp.Cells([]api.Piece{told(-far, far, far)}, x.l, api.CSum)
		var want []api.Cell
		for _, c := range x.want {
			want = append(want, met(c.From, c.To, far, c.Value))
		}
		expect(t, x.name, got, want, e, x.err)
		for _, how := range []int{api.CMin, api.CMax} {
			if _, e := warp.Cells(nil, x.l, how); e != api.OK {
				t.Error(x.name, how, e)
			}
			if _, e := warp.Fold(x.l, how); e != api.OK {
				t.Error(x.name, how, e)
			}
		}
		if _, e := warp.Fold(x.l, api.CSum); e != x.err {
			t.Error(x.name, e)
		}
	}
}

// TestSumsTooFarComeFirst: a sum that is too far off is told wherever among too many cells, or pieces, it stands.
func TestSumsTooFarComeFirst(t *testing.T) {
	l := append([]api.Message{sent(-1, 2*most, 1)}, dots(0, most-2, 2)...)
	for i := range most - 2 {
		if _, e := warp.Cells(nil, l, api.CSum); e != api.ErrLarge {
			t.Fatal(e)
		}
		if _, e := warp.Fold(l, api.CSum); e != api.ErrLarge {
			t.Fatal(e)
		}
		wrong := append(slices.Clone(l), sent(2*i, 2*i+1, far))
		got, e := warp.Cells(nil, wrong, api.CSum)
		expect(t, i, got, nil, e, api.ErrForm)
		folded, e := warp.Fold(wrong, api.CSum)
		expect(t, i, folded, nil, e, api.ErrForm)
	}
}

func TestFold(t *testing.T) {
	mixed := []api.Message{sent(0, 4, 2), sent(2, 6, -3), sent(8, 9, 5)}
	for i, x := range []struct {
		l    []api.Message
		how  int
		want []api.Piece
		err  api.Errno
	}{
		{nil, api.CMin, nil, api.OK},
		{[]api.Message{}, api.CSum, nil, api.OK},
		{mixed, api.CMin, []api.Piece{told(0, 2, 2), told(2, 6, -3), told(8, 9, 5)}, api.OK},
		{mixed, api.CMax, []api.Piece{told(0, 4, 2), told(4, 6, -3), told(8, 9, 5)}, api.OK},
		{mixed, api.CSum, []api.Piece{told(0, 2, 2), told(2, 4, -1), told(4, 6, -3), told(8, 9, 5)}, api.OK},
		// A map is one list: what is the same and touches is one piece.
		{[]api.Message{sent(3, 6, 2), sent(0, 3, 2)}, api.CSum, []api.Piece{told(0, 6, 2)}, api.OK},
		{[]api.Message{sent(0, 9, 2), sent(3, 6, 0)}, api.CSum, []api.Piece{told(0, 9, 2)}, api.OK},
		{[]api.Message{sent(0, 9, 2), sent(3, 6, 0), sent(3, 6, -2)}, api.CSum, []api.Piece{told(0, 3, 2), told(3, 6, 0), told(6, 9, 2)}, api.OK},
		{[]api.Message{sent(1, 4, 5), sent(1, 4, 5)}, api.CSum, []api.Piece{told(1, 4, 10)}, api.OK},
		{[]api.Message{sent(-far, far, far)}, api.CSum, []api.Piece{told(-far, far, far)}, api.OK},
		{dots(0, most, 7), api.CMax, pieces(dots(0, most, 7)), api.OK},
		{steps(0, most), api.CMax, pieces(steps(0, most)), api.OK},
		// Of more than 200 cells there may be fewer pieces.
		{nest(most, 3), api.CMin, []api.Piece{told(0, 2*most-1, 3)}, api.OK},
		{nest(most, 3), api.CMax, []api.Piece{told(0, 2*most-1, 3)}, api.OK},
		{nest(most, 0), api.CSum, []api.Piece{told(0, 2*most-1, 0)}, api.OK},
		{nest(most, 3), api.CSum, nil, api.ErrLarge},
		{nest(most/2+1, 3), api.CSum, nil, api.ErrLarge},
		{append(nest(most/2, 3), sent(most, most+1, 4)), api.CSum, rising(most / 2), api.OK},
		{append(nest(most/2, 3), sent(most, most+2, 4), sent(most+1, most+2, 4)), api.CSum, nil, api.ErrLarge},
	} {
		got, e := warp.Fold(x.l, x.how)
		expect(t, i, got, x.want, e, x.err)
	}
}

// rising is the fold of a nest of n messages of the value 3, and a piece of the value 4 behind a gap of one time.
func rising(n int) []api.Piece {
	var m []api.Piece
	for i := range 2*n - 1 {
		m = append(m, told(i, i+1, 3*min(i+1, 2*n-1-i)))
	}
	return append(m, told(2*n, 2*n+1, 4))
}

func TestWrongHows(t *testing.T) {
	for _, how := range wrongHows() {
		for _, l := range rightLists() {
			got, e := warp.Cells([]api.Piece{told(0, 1, 2)}, l, how)
			expect(t, how, got, nil, e, api.ErrArg)
			folded, e := warp.Fold(l, how)
			expect(t, how, folded, nil, e, api.ErrArg)
		}
	}
}

// TestWrongLists: the state's error is told ahead of the messages' one, and that ahead of a wrong how.
func TestWrongLists(t *testing.T) {
	wrongStates := []struct {
		m    []api.Piece
		want api.Errno
	}{
		{pieces(steps(0, most+1)), api.ErrLarge},
		{make([]api.Piece, most+1), api.ErrLarge},
		{[]api.Piece{told(0, 1, 2), told(1, 2, 2)}, api.ErrForm},
		{[]api.Piece{told(0, 2, 2), told(1, 3, 3)}, api.ErrForm},
		{[]api.Piece{told(1, 1, 2)}, api.ErrForm},
		{[]api.Piece{told(0, 1, far+1)}, api.ErrForm},
		{[]api.Piece{told(math.MinInt, math.MaxInt, 0)}, api.ErrForm},
	}
	for _, how := range append(wrongHows(), hows()...) {
		for _, w := range wrongLists() {
			got, e := warp.Cells([]api.Piece{told(0, 1, 2)}, w.list, how)
			expect(t, w.name, got, nil, e, w.want)
			folded, e := warp.Fold(w.list, how)
			expect(t, w.name, folded, nil, e, w.want)
			for i, s := range wrongStates {
				got, e := warp.Cells(s.m, w.list, how)
				expect(t, i, got, nil, e, s.want)
			}
		}
		for i, s := range wrongStates {
			for _, l := range rightLists() {
				got, e := warp.Cells(s.m, l, how)
				expect(t, i, got, nil, e, s.want)
			}
		}
	}
}
