package warp_test

import (
	"math"
	"slices"
	"testing"

	"timeweft/api"
	"timeweft/imap"
	"timeweft/internal/probe"
	"timeweft/warp"
)

// handedIn are states and messages, right and wrong ones.
type handedIn struct {
	state []api.Piece
	l     []api.Message
}

func someIn() []handedIn {
	list := []handedIn{
		{[]api.Piece{told(0, 5, 1)}, []api.Message{sent(0, 5, 1)}},
		{[]api.Piece{told(0, 2, 1), told(2, 9, 2), told(12, 20, 1)}, []api.Message{sent(7, 14, 1), sent(1, 5, 3), sent(3, 4, 3)}},
		{[]api.Piece{told(5, 9, 1), told(1, 5, 1)}, []api.Message{sent(0, 5, 1)}},
		{pieces(steps(0, most)), dots(1, most, 2)},
	}
	for _, l := range rightLists() {
		list = append(list, handedIn{nil, l}, handedIn{pieces(dots(0, most, 3)), l})
	}
	for _, w := range wrongLists() {
		list = append(list, handedIn{[]api.Piece{told(0, 5, 1)}, w.list})
	}
	return list
}

func (h handedIn) roomy() handedIn {
	return handedIn{probe.Roomy(h.state, told(-7, -3, 9)), probe.Roomy(h.l, sent(-7, -3, 9))}
}

// whole is a copy that has what stood in the room, too.
func (h handedIn) whole() handedIn {
	return handedIn{slices.Clone(probe.Whole(h.state)), slices.Clone(probe.Whole(h.l))}
}

func (h handedIn) same(as handedIn) bool {
	return slices.Equal(h.state, as.state) && slices.Equal(h.l, as.l)
}

func (h handedIn) spoil() {
	probe.Spoil(h.state, told(77, 78, 79))
	probe.Spoil(h.l, sent(77, 78, 79))
}

// alone asks a call whether it leaves what is handed in, with the room behind it, and answers a list of its own.
func alone[T comparable](t *testing.T, name string, of func(h handedIn) ([]T, api.Errno), spoilt T) {
	t.Helper()
	for i, h := range someIn() {
		want, err := of(h)
		want = slices.Clone(want)
		in := h.roomy()
		was := in.whole()
		first, e := of(in)
		if e != err || !slices.Equal(first, want) {
			t.Error(name, i, "reads the room")
		}
		probe.Spoil(first, spoilt)
		if !in.whole().same(was) {
			t.Error(name, i, "what was handed in is changed, or shared")
		}
		second, e := of(in)
		in.spoil()
		probe.Spoil(first, spoilt)
		if e != err || !slices.Equal(second, want) {
			t.Error(name, i, "another answer the second time, or a shared one")
		}
	}
}

func TestMemory(t *testing.T) {
	for _, how := range append(hows(), 0) {
		alone(t, "Cells", func(h handedIn) ([]api.Cell, api.Errno) { return warp.Cells(h.state, h.l, how) }, met(77, 78, 79, 80))
		alone(t, "Fold", func(h handedIn) ([]api.Piece, api.Errno) { return warp.Fold(h.l, how) }, told(77, 78, 79))
	}
	alone(t, "Check", func(h handedIn) ([]int, api.Errno) { return nil, warp.Check(h.l) }, 77)
}

// TestWildNumbers: whatever stands in the lists each call answers, and with a list only beside OK.
func TestWildNumbers(t *testing.T) {
	wild := []int{math.MinInt, -far - 1, -far, 0, far, far + 1, math.MaxInt}
	var some []api.Message
	for _, from := range wild {
		for _, to := range wild {
			for _, v := range []int{math.MinInt, -far, far, math.MaxInt} {
				some = append(some, sent(from, to, v))
			}
		}
	}
	for _, x := range some {
		for _, y := range some {
			for _, how := range append(hows(), math.MinInt, math.MaxInt) {
				l := []api.Message{x, y}
				cells, e := warp.Cells([]api.Piece{api.Piece(y)}, l, how)
				if e != api.OK && cells != nil || e == api.OK && len(cells) == 0 {
					t.Fatal(x, y, how, cells, e)
				}
				fold, e := warp.Fold(l, how)
				if e != api.OK && fold != nil || e == api.OK && len(fold) == 0 || imap.Check(fold) != api.OK {
					t.Fatal(x, y, how, fold, e)
				}
			}
		}
	}
}
