package desk

import (
	"strconv"
	"strings"

	"timeweft/api"
	"timeweft/bsp"
	"timeweft/cheap"
	"timeweft/early"
	"timeweft/graph"
	"timeweft/journey"
	"timeweft/plain"
)

// answer is what an order asks of a right graph.
func (o order) answer(g api.Graph) (string, api.Errno) {
	switch o.name {
	case "show":
		return show(g)
	case "labels":
		return atTime(g, o.n[0], plain.Labels)
	case "hops":
		return atTime(g, o.n[0], func(s api.Snapshot) ([]int, api.Errno) { return plain.Hops(s, o.n[1]) })
	case "costs":
		return atTime(g, o.n[0], func(s api.Snapshot) ([]int, api.Errno) { return plain.Costs(s, o.n[1]) })
	case "all":
		return allTimes(g, o.n[0], o.n[1])
	case "early":
		return row(early.Arrivals(g, o.n[0], o.n[1]))
	case "late":
		return row(early.Departures(g, o.n[0], o.n[1]))
	case "cheap":
		return row(cheap.Costs(g, o.n[0], o.n[1]))
	case "few":
		return row(cheap.Hops(g, o.n[0], o.n[1]))
	case "fast":
		takes, start, e := cheap.Fastest(g, o.n[0], o.n[1])
		return row([]int{takes, start}, e)
	case "go":
		at, time, cost, e := journey.Go(g, o.n[0], o.n[1], o.hops)
		return row([]int{at, time, cost}, e)
	}
	return "", api.ErrSyntax
}

func show(g api.Graph) (string, api.Errno) {
	text, e := graph.Print(g)
	return text + done, e
}

// atTime asks a snapshot.
func atTime(g api.Graph, t int, ask func(s api.Snapshot) ([]int, api.Errno)) (string, api.Errno) {
	s, e := graph.At(g, t)
	if e != api.OK {
		return "", e
	}
	return row(ask(s))
}

func allTimes(g api.Graph, program, from int) (string, api.Errno) {
	maps, _, e := bsp.Run(g, program, from)
	if e != api.OK {
		return "", e
	}
	var words []string
	for _, m := range maps {
		words = append(words, pieces(m))
	}
	return sentence(words), api.OK
}

// row tells numbers; what it tells beside an error isn't looked at.
func row(numbers []int, e api.Errno) (string, api.Errno) {
	var words []string
	for _, n := range numbers {
		words = append(words, number(n))
	}
	return sentence(words), e
}

func number(n int) string {
	if n == api.Inf {
		return "-"
	}
	return strconv.Itoa(n)
}

func pieces(m []api.Piece) string {
	if len(m) == 0 {
		return "-"
	}
	var l []string
	for _, p := range m {
		l = append(l, strconv.Itoa(p.From)+"-"+strconv.Itoa(p.To)+":"+strconv.Itoa(p.Value))
	}
	return strings.Join(l, ",")
}

func sentence(words []string) string {
	if len(words) == 0 {
		return "none"
	}
	return strings.Join(words, " ")
}
