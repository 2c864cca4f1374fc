package warp_test

import (
	"math/rand"
	"slices"
	"testing"

	"timeweft/api"
	"timeweft/imap"
	"timeweft/warp"
)

// moment is all that tells cells asunder at one time, and what the cell has.
type moment struct {
	there string // a byte for each message: is it there?
	state int
	has   bool
	value int
}

// at looks at one time alone; there is no message where some is false.
func at(state []api.Piece, l []api.Message, how, t int) (m moment, some bool) {
	var values []int
	there := make([]byte, len(l))
	for i, x := range l {
		if x.From <= t && t < x.To {
			there[i] = 1
			values = append(values, x.Value)
		}
	}
	for _, p := range state {
		if p.From <= t && t < p.To {
			m.state, m.has = p.Value, true
		}
	}
	m.there = string(there)
	if len(values) == 0 {
		return m, false
	}
	switch how {
	case api.CMin:
		m.value = slices.Min(values)
	case api.CMax:
		m.value = slices.Max(values)
	case api.CSum:
		for _, v := range values {
			m.value += v
		}
	}
	return m, true
}

// byTimes is what Cells and Fold must tell, of the times from 0 to horizon - 1, looked at one by one.
func byTimes(state []api.Piece, l []api.Message, how, horizon int) (cells []api.Cell, fold []api.Piece) {
	var ahead moment
	for t := range horizon {
		m, some := at(state, l, how, t)
		if !some {
			continue
		}
		if n := len(cells); n > 0 && cells[n-1].To == t && m == ahead {
			cells[n-1].To++
		} else {
			cells = append(cells, api.Cell{From: t, To: t + 1, State: m.state, Has: m.has, Value: m.value})
		}
		if n := len(fold); n > 0 && fold[n-1].To == t && fold[n-1].Value == m.value {
			fold[n-1].To++
		} else {
			fold = append(fold, told(t, t+1, m.value))
		}
		ahead = m
	}
	return cells, fold
}

// fitting answers what is told of a list that may have too many things.
func fitting[T any](l []T) ([]T, api.Errno) {
	if len(l) > most {
		return nil, api.ErrLarge
	}
	return l, api.OK
}

// hold asks both calls, of times below a horizon and values whose sums aren't too far off.
func hold(t *testing.T, state []api.Piece, l []api.Message, how, horizon int) {
	t.Helper()
	cells, fold := byTimes(state, l, how, horizon)
	wantCells, err := fitting(cells)
	got, e := warp.Cells(state, l, how)
	if e != err || !slices.Equal(got, wantCells) {
		t.Fatal("Cells", state, l, how, got, e)
	}
	wantFold, err := fitting(fold)
	folded, e := warp.Fold(l, how)
	if e != err || !slices.Equal(folded, wantFold) || imap.Check(folded) != api.OK {
		t.Fatal("Fold", l, how, folded, e)
	}
}

// smallStates are all maps of the times from 0 to horizon - 1 that tell nothing, 0 or 1 at each.
func smallStates(horizon int) [][]api.Piece {
	all := [][]api.Piece{nil}
	for at := range horizon {
		for _, m := range slices.Clone(all) {
			for v := range 2 {
				next, e := imap.Put(m, told(at, at+1, v))
				if e == api.OK {
					all = append(all, next)
				}
			}
		}
	}
	return all
}

// smallLists are all lists of up to two messages within the times, of the values -1, 0 and 2.
func smallLists(horizon int) [][]api.Message {
	var one []api.Message
	for from := range horizon {
		for to := from + 1; to <= horizon; to++ {
			one = append(one, sent(from, to, -1), sent(from, to, 0), sent(from, to, 2))
		}
	}
	all := [][]api.Message{nil}
	for _, x := range one {
		all = append(all, []api.Message{x})
		for _, y := range one {
			all = append(all, []api.Message{x, y})
		}
	}
	return all
}

func TestSmallLists(t *testing.T) {
	const horizon = 4
	lists := smallLists(horizon)
	for _, state := range smallStates(horizon) {
		for _, l := range lists {
			for _, how := range hows() {
				hold(t, state, l, how, horizon)
			}
		}
	}
}

// TestGreatLists: up to as many pieces and messages as there may be; the same ones each time.
func TestGreatLists(t *testing.T) {
	r := rand.New(rand.NewSource(5))
	for range 600 {
		horizon := 2 + r.Intn(600)
		length, values := 1+r.Intn(horizon), 1+r.Intn(5)
		some := func() (from, to, value int) {
			from = r.Intn(horizon)
			return from, min(horizon, from+1+r.Intn(length)), r.Intn(values) - values/2
		}
		var state []api.Piece
		for range r.Intn(most) {
			if next, e := imap.Put(state, api.Piece(sent(some()))); e == api.OK {
				state = next
			}
		}
		var l []api.Message
		for range r.Intn(most + 1) {
			l = append(l, sent(some()))
		}
		for _, how := range hows() {
			hold(t, state, l, how, horizon)
		}
	}
}

// TestOrderOfMessages: the numbers of messages tell them asunder, and are told nowhere.
func TestOrderOfMessages(t *testing.T) {
	state := []api.Piece{told(2, 5, 1)}
	l := []api.Message{sent(0, 4, 3), sent(0, 4, 3), sent(1, 6, -2), sent(6, 8, 0), sent(3, 7, 9)}
	backward := slices.Clone(l)
	slices.Reverse(backward)
	for _, how := range hows() {
		a, e := warp.Cells(state, l, how)
		b, f := warp.Cells(state, backward, how)
		if e != api.OK || f != api.OK || !slices.Equal(a, b) {
			t.Error(how, a, b, e, f)
		}
	}
}
