package plain_test

import (
	"math"
	"slices"
	"testing"

	"timeweft/api"
	"timeweft/internal/probe"
	"timeweft/plain"
)

// call is one of those that answer a list.
type call struct {
	name string
	of   func(s api.Snapshot) ([]int, api.Errno)
}

func calls(from int) []call {
	return []call{
		{"Hops", func(s api.Snapshot) ([]int, api.Errno) { return plain.Hops(s, from) }},
		{"Costs", func(s api.Snapshot) ([]int, api.Errno) { return plain.Costs(s, from) }},
		{"Labels", plain.Labels},
		{"Degrees", plain.Degrees},
	}
}

// someSnapshots are right and wrong ones.
func someSnapshots() []api.Snapshot {
	list := rightSnapshots()
	for _, w := range wrongSnapshots() {
		list = append(list, w.s)
	}
	return list
}

// TestSnapshotsAreLeft: no call changes its snapshot, nor reads or writes the room behind its lists.
func TestSnapshotsAreLeft(t *testing.T) {
	for i, s := range someSnapshots() {
		roomy := probe.RoomySnapshot(s)
		was := probe.WholeSnapshot(roomy)
		if plain.Check(s) != plain.Check(roomy) {
			t.Error(i, "Check reads the room")
		}
		for from := range api.MaxVertices + 2 {
			for _, c := range calls(from) {
				want, e := c.of(s)
				if got, f := c.of(roomy); e != f || !slices.Equal(got, want) {
					t.Error(i, c.name, "reads the room", got, want)
				}
			}
		}
		if !probe.SameSnapshot(probe.WholeSnapshot(roomy), was) {
			t.Error(i, "what was handed in is changed")
		}
	}
}

// TestListsAreNew: what is answered is the caller's alone, and the next answer to the same is the same.
func TestListsAreNew(t *testing.T) {
	for i, right := range rightSnapshots() {
		for _, c := range calls(len(right.Alive) / 2) {
			s := probe.RoomySnapshot(right)
			first, e := c.of(s)
			want := slices.Clone(first)
			probe.Spoil(first, 77)
			second, f := c.of(s)
			probe.SpoilSnapshot(s)
			probe.Spoil(first, 78)
			if e != f || !slices.Equal(second, want) {
				t.Error(i, c.name, "another answer the second time, or a shared one")
			}
		}
	}
}

// TestWildNumbers: whatever stands in a snapshot each call answers, and with a list only beside OK.
func TestWildNumbers(t *testing.T) {
	wild := []int{math.MinInt, math.MinInt + 1, -1, 0, 1, 2, 1000, 1001, 1 << 32, api.Inf, math.MaxInt - 1, math.MaxInt}
	for _, x := range wild {
		for _, y := range wild {
			for _, z := range wild {
				s := all(2, arc(0, 1, 1), arc(x, y, z))
				e := plain.Check(s)
				for _, c := range calls(x) {
					if got, f := c.of(s); (got != nil) != (f == api.OK) || e != api.OK && f != e {
						t.Error(c.name, s, got, e, f)
					}
				}
			}
		}
	}
}
