// Package ivl: sets of times: see doc/01-ivl.md.
package ivl

import (
	"cmp"
	"slices"

	"timeweft/api"
)

// Check: P3.
func Check(l []api.Ivl) api.Errno {
	if e := checkBounds(l); e != api.OK {
		return e
	}
	for i, v := range l {
		if v.To <= v.From || i > 0 && v.From <= l[i-1].To {
			return api.ErrForm
		}
	}
	return api.OK
}

// Norm: P3.
func Norm(l []api.Ivl) ([]api.Ivl, api.Errno) {
	if e := checkBounds(l); e != api.OK {
		return nil, e
	}
	return join(rising(l)), api.OK
}

// Union: P4.
func Union(a, b []api.Ivl) ([]api.Ivl, api.Errno) {
	return combine(a, b, func(inA, inB bool) bool { return inA || inB })
}

// Meet: P4.
func Meet(a, b []api.Ivl) ([]api.Ivl, api.Errno) {
	return combine(a, b, func(inA, inB bool) bool { return inA && inB })
}

// Minus: P4.
func Minus(a, b []api.Ivl) ([]api.Ivl, api.Errno) {
	return combine(a, b, func(inA, inB bool) bool { return inA && !inB })
}

// Has: P4.
func Has(l []api.Ivl, t int) bool {
	for _, v := range l {
		if v.From <= t && t < v.To {
			return true
		}
	}
	return false
}

// Size: P4.
func Size(l []api.Ivl) (int, api.Errno) {
	if e := Check(l); e != api.OK {
		return 0, e
	}
	n := 0
	for _, v := range l {
		n += v.To - v.From
	}
	return n, api.OK
}

// checkBounds is the part of Check that Norm asks of its list, too.
func checkBounds(l []api.Ivl) api.Errno {
	if len(l) > api.MaxPieces {
		return api.ErrLarge
	}
	for _, v := range l {
		if !Near(v.From, v.To) {
			return api.ErrForm
		}
	}
	return api.OK
}

// Near is exported because times and values have the same bounds in every layer.
func Near(numbers ...int) bool {
	for _, n := range numbers {
		if n < -api.Far || n > api.Far {
			return false
		}
	}
	return true
}

// Spans is exported because what changes at some times alone is asked once between each two of them in other layers, too. The times may stand in any order, and more than once.
func Spans(times []int) []api.Ivl {
	t := slices.Clone(times)
	slices.Sort(t)
	t = slices.Compact(t)
	var r []api.Ivl
	for i := 1; i < len(t); i++ {
		r = append(r, api.Ivl{From: t[i-1], To: t[i]})
	}
	return r
}

// rising makes a list of its own, so that sorting leaves the caller's alone.
func rising(l []api.Ivl) []api.Ivl {
	var r []api.Ivl
	for _, v := range l {
		if v.From < v.To {
			r = append(r, v)
		}
	}
	slices.SortFunc(r, func(x, y api.Ivl) int { return cmp.Compare(x.From, y.From) })
	return r
}

// join makes one of intervals that overlap or touch: only then is a set one list.
func join(l []api.Ivl) []api.Ivl {
	var r []api.Ivl
	for _, v := range l {
		last := len(r) - 1
		if last < 0 || r[last].To < v.From {
			r = append(r, v)
			continue
		}
		r[last].To = max(r[last].To, v.To)
	}
	return r
}

// combine tells the set of the times that want picks, by whether a and b have them.
func combine(a, b []api.Ivl, want func(inA, inB bool) bool) ([]api.Ivl, api.Errno) {
	if e := Check(a); e != api.OK {
		return nil, e
	}
	if e := Check(b); e != api.OK {
		return nil, e
	}
	r := between(sweep(bounds(a), bounds(b), want))
	if len(r) > api.MaxPieces {
		return nil, api.ErrLarge
	}
	return r, api.OK
}

// bounds of a set rise strictly, as its intervals don't touch: behind an odd number of them lies a time that it has.
func bounds(l []api.Ivl) []int {
	r := make([]int, 0, 2*len(l))
	for _, v := range l {
		r = append(r, v.From, v.To)
	}
	return r
}

// sweep answers bounds again. What want picks changes at bounds of a or b alone, so no other time is looked at.
func sweep(a, b []int, want func(inA, inB bool) bool) []int {
	var r []int
	i, j := 0, 0
	for i < len(a) || j < len(b) {
		t := lesser(a[i:], b[j:])
		if i < len(a) && a[i] == t {
			i++
		}
		if j < len(b) && b[j] == t {
			j++
		}
		if want(i%2 == 1, j%2 == 1) != (len(r)%2 == 1) {
			r = append(r, t)
		}
	}
	return r
}

// lesser of the first bounds of two lists, one of which may have none left.
func lesser(a, b []int) int {
	t := api.Inf
	if len(a) > 0 {
		t = min(t, a[0])
	}
	if len(b) > 0 {
		t = min(t, b[0])
	}
	return t
}

// between undoes bounds.
func between(t []int) []api.Ivl {
	r := make([]api.Ivl, 0, len(t)/2)
	for i := 1; i < len(t); i += 2 {
		r = append(r, api.Ivl{From: t[i-1], To: t[i]})
	}
	return r
}
