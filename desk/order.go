package desk

import (
	"strings"

	"timeweft/api"
	"timeweft/graph"
)

// order is a line that is written right: its first word, its numbers, and what stands behind these, as words and, of a journey, as hops.
type order struct {
	name    string
	n       []int
	further []string
	hops    []api.Hop
}

// shape says what stands behind a first word: some numbers, and perhaps any number of further words.
type shape struct {
	numbers int
	further bool
}

func shapeOf(name string) (shape, bool) {
	switch name {
	case "clear", "show":
		return shape{}, true
	case "graph":
		return shape{further: true}, true
	case "labels":
		return shape{numbers: 1}, true
	case "hops", "costs", "all", "early", "late", "cheap", "few", "fast":
		return shape{numbers: 2}, true
	case "go":
		return shape{numbers: 2, further: true}, true
	}
	return shape{}, false
}

// fits is true of no further words, too, where there may be any number of them.
func (s shape) fits(words int) bool {
	return words == s.numbers || s.further && words > s.numbers
}

// read says whether a line is written right, too.
func read(words []string) (order, bool) {
	name, behind := words[0], words[1:]
	s, ok := shapeOf(name)
	if !ok || !s.fits(len(behind)) {
		return order{}, false
	}
	o := order{name: name, further: behind[s.numbers:]}
	for _, w := range behind[:s.numbers] {
		n, ok := graph.Number(w)
		if !ok {
			return order{}, false
		}
		o.n = append(o.n, n)
	}
	if name == "go" {
		o.hops, ok = hopsOf(o.further)
	}
	return o, ok
}

func hopsOf(words []string) ([]api.Hop, bool) {
	var hops []api.Hop
	for _, w := range words {
		edge, depart, _ := strings.Cut(w, "@")
		// Without an @ there is no time, and so no number.
		e, isEdge := graph.Number(edge)
		t, isTime := graph.Number(depart)
		if !isEdge || !isTime {
			return nil, false
		}
		hops = append(hops, api.Hop{Edge: e, Depart: t})
	}
	return hops, true
}
