package pack

import "timeweft/api"

const (
	numberBytes = 2
	sumBytes    = 4
)

// reader keeps the first thing that is wrong, and reads nothing but noughts from then on, so that who reads needn't ask each time.
type reader struct {
	s     string
	at    int
	wrong api.Errno
}

func (r *reader) graph() api.Graph {
	g := api.Graph{Horizon: r.number()}
	// Both counts come ahead of the lives, and so does what is wrong with them.
	vertices := r.count(api.MaxVertices)
	edges := r.count(api.MaxEdges)
	for range vertices {
		g.Lives = append(g.Lives, api.Ivl{From: r.number(), To: r.number()})
	}
	for range edges {
		g.Edges = append(g.Edges, r.edge())
	}
	return g
}

func (r *reader) edge() api.Edge {
	edge := api.Edge{A: r.number(), B: r.number()}
	for range r.count(api.MaxLegs) {
		edge.Legs = append(edge.Legs, api.Leg{From: r.number(), To: r.number(), Time: r.number(), Cost: r.number()})
	}
	return edge
}

// count is a number of things that stand further behind: too many of them are refused here, whether or not they are there.
func (r *reader) count(most int) int {
	n := r.number()
	if n > most {
		r.wrong = api.ErrLarge
		return 0
	}
	return n
}

func (r *reader) number() int {
	b := r.next(numberBytes)
	if b == "" {
		return 0
	}
	return int(b[0])<<8 | int(b[1])
}

// sum asks whether what stands behind all that was read is its sum.
func (r *reader) sum() {
	read := r.s[:r.at]
	b := r.next(sumBytes)
	if b == "" {
		return
	}
	if told := uint32(b[0]) | uint32(b[1])<<8 | uint32(b[2])<<16 | uint32(b[3])<<24; told != Sum(read) {
		r.wrong = api.ErrForm
	}
}

// next is the empty text, where so many bytes aren't there, or something was wrong ahead.
func (r *reader) next(bytes int) string {
	if r.wrong != api.OK {
		return ""
	}
	if len(r.s)-r.at < bytes {
		r.wrong = api.ErrForm
		return ""
	}
	b := r.s[r.at : r.at+bytes]
	r.at += bytes
	return b
}
