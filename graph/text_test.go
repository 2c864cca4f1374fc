package graph_test

import (
	"regexp"
	"strconv"
	"strings"
	"testing"

	"timeweft/api"
	"timeweft/graph"
	"timeweft/internal/probe"
)

const townText = `time 10
vertex 0 10
vertex 2 8
vertex 0 1
vertex 9 10
edge 0 1
leg 0 3 2 5
leg 3 6 1 1
leg 7 10 50 1000
edge 1 0
edge 1 1
leg 4 5 3 0
edge 0 2
leg 0 10 1 7
edge 0 1
leg 5 9 4 3
edge 3 0
leg 8 9 1 2
leg 9 10 1 4
`

func TestPrint(t *testing.T) {
	for _, c := range []struct {
		g    api.Graph
		want string
	}{
		{api.Graph{Horizon: 1}, "time 1\n"},
		{api.Graph{Horizon: 5, Lives: []api.Ivl{span(0, 5)}}, "time 5\nvertex 0 5\n"},
		{least(), "time 1\nvertex 0 1\nedge 0 0\nleg 0 1 1 0\n"},
		{town(), townText},
	} {
		if s, e := graph.Print(c.g); e != api.OK || s != c.want {
			t.Errorf("%q %d %q", s, e, c.want)
		}
	}
	for _, c := range wrongGraphs() {
		if s, e := graph.Print(c.g); e != c.want || s != "" {
			t.Error(c.name, s, e, c.want)
		}
	}
}

// TestThereAndBack: what is printed is read as the same graph.
func TestThereAndBack(t *testing.T) {
	for i, g := range rightGraphs() {
		s, e := graph.Print(g)
		if e != api.OK {
			t.Error(i, e)
		}
		if got, at, e := graph.Parse(s); e != api.OK || at != 0 || !probe.SameGraph(got, g) {
			t.Error(i, s, got, at, e)
		}
	}
}

// expectNone holds that no graph is told beside an error.
func expectNone(t *testing.T, s string, wantAt int, want api.Errno) {
	t.Helper()
	g, at, e := graph.Parse(s)
	if e != want || at != wantAt || g.Horizon != 0 || g.Lives != nil || g.Edges != nil {
		t.Errorf("%q %v %d %d, not %d %d", s, g, at, e, wantAt, want)
	}
}

func TestParseWrongLines(t *testing.T) {
	for _, c := range []struct {
		s  string
		at int
	}{
		{"", 1},
		{"\n", 1},
		{" ", 1},
		{"time", 1},
		{"time\n", 1},
		{"time 5", 1},
		{"time 5\r\n", 1},
		{"time 5 \n", 1},
		{" time 5\n", 1},
		{"time  5\n", 1},
		{"time\t5\n", 1},
		{"time 5 5\n", 1},
		{"Time 5\n", 1},
		{"times 5\n", 1},
		{"time -5\n", 1},
		{"time +5\n", 1},
		{"time 05\n", 1},
		{"time 00\n", 1},
		{"time 00005\n", 1},
		{"time 10000\n", 1},
		{"time 99999999999999999999\n", 1},
		{"time 5x\n", 1},
		{"time x5\n", 1},
		{"time 5/\n", 1},
		{"time 5:\n", 1},
		{"time 5.0\n", 1},
		{"time 0x5\n", 1},
		{"time 1_0\n", 1},
		{"time \xd9\xa5\n", 1},
		{"time 5\x00\n", 1},
		{"5\n", 1},
		{"vertex 0 1\n", 1},
		{"edge 0 0\n", 1},
		{"leg 0 1 1 1\n", 1},
		{"\ntime 5\n", 1},
		{"time 5\n\n", 2},
		{"time 5\n ", 2},
		{"time 5\ntime 5\n", 2},
		{"time 5\nvertex 0 5", 2},
		{"time 5\nvertex 0\n", 2},
		{"time 5\nvertex 0 5 1\n", 2},
		{"time 5\nvertex 0 05\n", 2},
		{"time 5\nvertex -1 5\n", 2},
		{"time 5\nvertex\n", 2},
		{"time 5\nleg 0 1 1 1\n", 2},
		{"time 5\nvertex 0 5\nleg 0 1 1 1\n", 3},
		{"time 5\nvertex 0 5\n\nedge 0 0\n", 3},
		{"time 5\nvertex 0 5\nedge 0 0", 3},
		{"time 5\nvertex 0 5\nedge 0\n", 3},
		{"time 5\nvertex 0 5\nedge 0 0 0\n", 3},
		{"time 5\nvertex 0 5\nedge 0 0\nvertex 0 5\n", 4},
		{"time 5\nvertex 0 5\nedge 0 0\ntime 5\n", 4},
		{"time 5\nvertex 0 5\nedge 0 0\nleg 0 1 1\n", 4},
		{"time 5\nvertex 0 5\nedge 0 0\nleg 0 1 1 1 1\n", 4},
		{"time 5\nvertex 0 5\nedge 0 0\nleg 0 1 1 1", 4},
		{"time 5\nvertex 0 5\nedge 0 0\nleg 0 1 1 1\nvertex 0 5\n", 5},
		// A wrong line is told ahead of what Check finds, and the first one of two.
		{"time 0\nvertex 9 3\nedge 7 7\nleg 0 1 1 00\n", 4},
		{"time 5\nvertex 0 6\nvertex\nedge\n", 3},
		{strings.Repeat("time 5\n", 3), 2},
	} {
		expectNone(t, c.s, c.at, api.ErrSyntax)
	}
}

func TestParseChecks(t *testing.T) {
	const five = "time 5\nvertex 0 5\n"
	for _, c := range []struct {
		s    string
		want api.Errno
	}{
		{"time 0\n", api.ErrArg},
		{"time 101\n", api.ErrArg},
		{"time 9999\n", api.ErrArg},
		{"time 5\n" + strings.Repeat("vertex 0 5\n", api.MaxVertices+1), api.ErrLarge},
		{five + strings.Repeat("edge 0 0\n", api.MaxEdges+1), api.ErrLarge},
		{"time 5\nvertex 0 6\n", api.ErrArg},
		{"time 5\nvertex 3 3\n", api.ErrArg},
		{"time 5\nedge 0 0\n", api.ErrNone},
		{five + "edge 0 1\n", api.ErrNone},
		{five + "edge 1 0\n", api.ErrNone},
		{five + "edge 0 0\n" + strings.Repeat("leg 0 1 1 1\n", api.MaxLegs+1), api.ErrLarge},
		{five + "edge 0 0\nleg 0 6 1 1\n", api.ErrArg},
		{five + "edge 0 0\nleg 0 1 0 1\n", api.ErrArg},
		{five + "edge 0 0\nleg 0 1 51 1\n", api.ErrArg},
		{five + "edge 0 0\nleg 0 1 1 1001\n", api.ErrArg},
		{five + "edge 0 0\nleg 0 3 1 1\nleg 2 4 1 1\n", api.ErrForm},
	} {
		expectNone(t, c.s, 0, c.want)
	}
}

// TestParseTooLong: 8192 bytes are read, one more is not, whatever they are.
func TestParseTooLong(t *testing.T) {
	const longer = "vertex 0 10\n"
	text := func(n int) string {
		return "time 0\n" + strings.Repeat("vertex 0 5\n", 744-n) + strings.Repeat(longer, n)
	}
	if len(text(1)) != api.MaxText {
		t.Fatal(len(text(1)))
	}
	expectNone(t, text(1), 0, api.ErrArg)
	expectNone(t, text(2), 0, api.ErrLarge)
	for _, c := range []string{"\n", " ", "x", "\x00"} {
		expectNone(t, strings.Repeat(c, api.MaxText), 1, api.ErrSyntax)
		expectNone(t, strings.Repeat(c, api.MaxText+1), 0, api.ErrLarge)
	}
	// An error's line may be the last one that there is room for.
	last := text(1)[:api.MaxText-len(longer)] + strings.Repeat("x", len(longer))
	expectNone(t, last, 745, api.ErrSyntax)
}

// wholeText is the form of a text, told another way.
func wholeText() *regexp.Regexp {
	form := `\Atime N\n(vertex N N\n)*(edge N N\n(leg N N N N\n)*)*\z`
	return regexp.MustCompile(strings.ReplaceAll(form, "N", `(0|[1-9][0-9]{0,3})`))
}

// firstWrong is the number of the first line with which a text is none, or 0.
func firstWrong(form *regexp.Regexp, s string) int {
	lines := strings.SplitAfter(s, "\n")
	if len(lines) > 1 && lines[len(lines)-1] == "" {
		lines = lines[:len(lines)-1]
	}
	for i := range lines {
		if !form.MatchString(strings.Join(lines[:i+1], "")) {
			return i + 1
		}
	}
	return 0
}

// graphOf reads a text of the right form, whatever its numbers.
func graphOf(s string) api.Graph {
	var g api.Graph
	for _, line := range strings.Split(strings.TrimSuffix(s, "\n"), "\n") {
		words := strings.Fields(line)
		var n []int
		for _, w := range words[1:] {
			i, _ := strconv.Atoi(w)
			n = append(n, i)
		}
		switch words[0] {
		case "time":
			g.Horizon = n[0]
		case "vertex":
			g.Lives = append(g.Lives, span(n[0], n[1]))
		case "edge":
			g.Edges = append(g.Edges, edge(n[0], n[1]))
		case "leg":
			e := &g.Edges[len(g.Edges)-1]
			e.Legs = append(e.Legs, leg(n[0], n[1], n[2], n[3]))
		}
	}
	return g
}

// expectAsForm holds Parse against the form, Check and Print.
func expectAsForm(t *testing.T, form *regexp.Regexp, s string) {
	t.Helper()
	if wrong := firstWrong(form, s); wrong > 0 {
		expectNone(t, s, wrong, api.ErrSyntax)
		return
	}
	want := graphOf(s)
	if e := graph.Check(want); e != api.OK {
		expectNone(t, s, 0, e)
		return
	}
	got, at, e := graph.Parse(s)
	if e != api.OK || at != 0 || !probe.SameGraph(got, want) {
		t.Errorf("%q %v %d %d", s, got, at, e)
	}
	if again, e := graph.Print(got); e != api.OK || again != s {
		t.Errorf("%q %q %d", s, again, e)
	}
}

// TestParseChangedBytes: a text with any byte left out, put in, or changed.
func TestParseChangedBytes(t *testing.T) {
	const s = "time 10\nvertex 0 10\nvertex 2 8\nedge 0 1\nleg 0 3 2 5\nleg 3 6 1 10\nedge 1 0\n"
	form := wholeText()
	expectAsForm(t, form, s)
	for i := range len(s) {
		expectAsForm(t, form, s[:i])
		expectAsForm(t, form, s[i:])
		expectAsForm(t, form, s[:i]+s[i+1:])
		for _, c := range []byte("0159 -+/:\n\r\tetx\x00\xff") {
			expectAsForm(t, form, s[:i]+string([]byte{c})+s[i:])
			expectAsForm(t, form, s[:i]+string([]byte{c})+s[i+1:])
		}
	}
}

// TestParseLineOrders: all texts of up to five lines of these, right and wrong.
func TestParseLineOrders(t *testing.T) {
	lines := []string{"time 5\n", "vertex 0 5\n", "edge 0 0\n", "leg 0 1 1 1\n", "leg 2 3 1 1\n", "vertex 0\n", "\n"}
	form := wholeText()
	var all func(s string, left int)
	all = func(s string, left int) {
		expectAsForm(t, form, s)
		if left == 0 {
			return
		}
		for _, line := range lines {
			all(s+line, left-1)
		}
	}
	all("", 5)
}
