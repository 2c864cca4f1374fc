package imap_test

import (
	"slices"
	"testing"

	"timeweft/api"
	"timeweft/imap"
)

// horizon: the small maps are of the times from 0 to horizon - 1.
const horizon = 5

// table has what is told at each time, if anything is.
type table [horizon]struct {
	value int
	ok    bool
}

// tables are all that have nothing, -1 or 1 at each time.
func tables() []table {
	all := []table{{}}
	for at := range horizon {
		for _, x := range slices.Clone(all) {
			for _, v := range []int{-1, 1} {
				x[at].value, x[at].ok = v, true
				all = append(all, x)
			}
		}
	}
	return all
}

// pieces is the one list of a table.
func (x table) pieces() []api.Piece {
	var m []api.Piece
	for at, c := range x {
		if !c.ok {
			continue
		}
		if n := len(m); n > 0 && m[n-1].To == at && m[n-1].Value == c.value {
			m[n-1].To++
			continue
		}
		m = append(m, told(at, at+1, c.value))
	}
	return m
}

// spans is the one list of the times at which a table tells something.
func (x table) spans() []api.Ivl {
	for at := range x {
		x[at].value = 0
	}
	return timesOf(x.pieces())
}

func TestCheckAndAtOfSmallMaps(t *testing.T) {
	for _, x := range tables() {
		m := x.pieces()
		if e := imap.Check(m); e != api.OK {
			t.Fatal(m, e)
		}
		for at, c := range x {
			if v, ok := imap.At(m, at); v != c.value || ok != c.ok {
				t.Fatal(m, at, v, ok)
			}
		}
	}
}

// TestPutOnSmallMaps goes through every piece within the times, those without times among them.
func TestPutOnSmallMaps(t *testing.T) {
	for _, x := range tables() {
		for from := range horizon {
			for to := range horizon + 1 {
				for _, v := range []int{-1, 0, 1} {
					want := x
					for at := from; at < to; at++ {
						want[at].value, want[at].ok = v, true
					}
					got, e := imap.Put(x.pieces(), told(from, to, v))
					if e != api.OK || !slices.Equal(got, want.pieces()) {
						t.Fatal(x.pieces(), from, to, v, got, e)
					}
				}
			}
		}
	}
}

// pairs calls f with every two small maps.
func pairs(f func(x, y table)) {
	all := tables()
	for _, x := range all {
		for _, y := range all {
			f(x, y)
		}
	}
}

func TestCutAndKeepOfSmallMaps(t *testing.T) {
	for _, c := range setCalls() {
		pairs(func(x, y table) {
			want := x
			for at := range want {
				if y[at].ok != c.keeps {
					want[at].ok = false
				}
			}
			got, e := c.of(x.pieces(), y.spans())
			if e != api.OK || !slices.Equal(got, want.pieces()) {
				t.Fatal(c.name, x.pieces(), y.spans(), got, e)
			}
		})
	}
}

func TestMergeOfSmallMaps(t *testing.T) {
	for _, how := range hows() {
		pairs(func(x, y table) {
			want := x
			for at := range want {
				switch {
				case !x[at].ok:
					want[at] = y[at]
				case !y[at].ok:
				case how == api.CSum:
					want[at].value += y[at].value
				case how == api.CMin && y[at].value < x[at].value, how == api.CMax && y[at].value > x[at].value:
					want[at] = y[at]
				}
			}
			got, e := imap.Merge(x.pieces(), y.pieces(), how)
			if e != api.OK || !slices.Equal(got, want.pieces()) {
				t.Fatal(how, x.pieces(), y.pieces(), got, e)
			}
		})
	}
}

func TestTimesOfSmallMaps(t *testing.T) {
	for _, x := range tables() {
		got, e := imap.Times(x.pieces())
		if e != api.OK || !slices.Equal(got, x.spans()) {
			t.Fatal(x.pieces(), got, e)
		}
	}
}
