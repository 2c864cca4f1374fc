package probe

import (
	"slices"

	"timeweft/api"
)

// RoomySnapshot is a copy of a snapshot with room behind each of its lists, in which vertices are alive and arcs go round.
func RoomySnapshot(s api.Snapshot) api.Snapshot {
	return api.Snapshot{Alive: Roomy(s.Alive, true), Arcs: Roomy(s.Arcs, api.Arc{})}
}

// WholeSnapshot is a copy of a snapshot in which each list has what stood in the room behind it, too.
func WholeSnapshot(s api.Snapshot) api.Snapshot {
	return api.Snapshot{Alive: slices.Clone(Whole(s.Alive)), Arcs: slices.Clone(Whole(s.Arcs))}
}

// CopySnapshot shares nothing with its snapshot.
func CopySnapshot(s api.Snapshot) api.Snapshot {
	return api.Snapshot{Alive: slices.Clone(s.Alive), Arcs: slices.Clone(s.Arcs)}
}

// SameSnapshot takes no list and an empty one for the same.
func SameSnapshot(a, b api.Snapshot) bool {
	return slices.Equal(a.Alive, b.Alive) && slices.Equal(a.Arcs, b.Arcs)
}

// SpoilSnapshot writes over each list of a snapshot, and the room behind it.
func SpoilSnapshot(s api.Snapshot) {
	for i, was := range Whole(s.Alive) {
		Whole(s.Alive)[i] = !was
	}
	Spoil(s.Arcs, api.Arc{A: 77, B: 78, Cost: 79})
}
