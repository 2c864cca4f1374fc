package graph

import (
	"strconv"
	"strings"

	"timeweft/api"
)

const maxDigits = 4

// Print: P8.
func Print(g api.Graph) (string, api.Errno) {
	if e := Check(g); e != api.OK {
		return "", e
	}
	var s strings.Builder
	writeLine(&s, "time", g.Horizon)
	for _, life := range g.Lives {
		writeLine(&s, "vertex", life.From, life.To)
	}
	for _, edge := range g.Edges {
		writeLine(&s, "edge", edge.A, edge.B)
		for _, leg := range edge.Legs {
			writeLine(&s, "leg", leg.From, leg.To, leg.Time, leg.Cost)
		}
	}
	return s.String(), api.OK
}

// Parse: P8.
func Parse(s string) (api.Graph, int, api.Errno) {
	if len(s) > api.MaxText {
		return api.Graph{}, 0, api.ErrLarge
	}
	g, wrong := read(s)
	if wrong > 0 {
		return api.Graph{}, wrong, api.ErrSyntax
	}
	if e := Check(g); e != api.OK {
		return api.Graph{}, 0, e
	}
	return g, 0, api.OK
}

func writeLine(s *strings.Builder, word string, numbers ...int) {
	s.WriteString(word)
	for _, n := range numbers {
		s.WriteByte(' ')
		s.WriteString(strconv.Itoa(n))
	}
	s.WriteByte('\n')
}

// read answers the number of the first wrong line, too, or 0. It looks for a first line in any text, so that the empty one is wrong there.
func read(s string) (api.Graph, int) {
	var g api.Graph
	for at := 1; at == 1 || s != ""; at++ {
		line, behind, ended := strings.Cut(s, "\n")
		if !ended || !readLine(&g, line, at == 1) {
			return g, at
		}
		s = behind
	}
	return g, 0
}

// readLine needs to know of the lines ahead no more than what of them stands in the graph, and whether there are any.
func readLine(g *api.Graph, line string, first bool) bool {
	words := strings.Split(line, " ")
	kind := words[0]
	n, ok := numbers(words[1:])
	if !ok || first != (kind == "time") {
		return false
	}
	last := len(g.Edges) - 1
	switch {
	case kind == "time" && len(n) == 1:
		g.Horizon = n[0]
	case kind == "vertex" && len(n) == 2 && last < 0:
		g.Lives = append(g.Lives, api.Ivl{From: n[0], To: n[1]})
	case kind == "edge" && len(n) == 2:
		g.Edges = append(g.Edges, api.Edge{A: n[0], B: n[1]})
	case kind == "leg" && len(n) == 4 && last >= 0:
		legs := &g.Edges[last].Legs
		*legs = append(*legs, api.Leg{From: n[0], To: n[1], Time: n[2], Cost: n[3]})
	default:
		return false
	}
	return true
}

func numbers(words []string) ([]int, bool) {
	var r []int
	for _, w := range words {
		n, ok := Number(w)
		if !ok {
			return nil, false
		}
		r = append(r, n)
	}
	return r, true
}

// Number takes digits alone: no line that Print tells has a sign. It is exported because the desk reads its numbers likewise.
func Number(w string) (int, bool) {
	if w == "" || len(w) > maxDigits || w[0] == '0' && w != "0" {
		return 0, false
	}
	n := 0
	for i := range len(w) {
		if w[i] < '0' || w[i] > '9' {
			return 0, false
		}
		n = 10*n + int(w[i]-'0')
	}
	return n, true
}
