// Package probe: what the tests of every package need to see whether lists share memory.
package probe

import (
	"slices"

	"timeweft/api"
)

// Roomy is a copy of a list with room behind it, in which something stands.
func Roomy[T any](l []T, something T) []T {
	const room = 8
	r := make([]T, len(l)+room)
	copy(r, l)
	for i := len(l); i < len(r); i++ {
		r[i] = something
	}
	return r[:len(l)]
}

// Whole is a list with the room behind it.
func Whole[T any](l []T) []T {
	return l[:cap(l)]
}

// Spoil writes over a list and the room behind it.
func Spoil[T any](l []T, with T) {
	for i := range Whole(l) {
		Whole(l)[i] = with
	}
}

// Sharing says how a call of two lists fails to leave them alone, or to answer a list of its own; nothing, if it does both. The room behind a and b is filled, and lists are spoilt, with two things of which neither is in them.
func Sharing[T comparable](of func(a, b []T) ([]T, api.Errno), a, b []T, room, spoilt T) string {
	a, b = Roomy(a, room), Roomy(b, room)
	wasA, wasB := slices.Clone(Whole(a)), slices.Clone(Whole(b))
	first, e := of(a, b)
	want := slices.Clone(first)
	Spoil(first, spoilt)
	if !slices.Equal(Whole(a), wasA) || !slices.Equal(Whole(b), wasB) {
		return "what was handed in is changed, or shared"
	}
	second, f := of(a, b)
	if e != f || !slices.Equal(second, want) {
		return "another answer the second time"
	}
	Spoil(a, spoilt)
	Spoil(b, spoilt)
	Spoil(first, spoilt)
	if !slices.Equal(second, want) {
		return "the answer is shared"
	}
	return ""
}
