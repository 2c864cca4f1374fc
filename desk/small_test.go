package desk_test

import (
	"fmt"
	"math/rand"
	"regexp"
	"strconv"
	"strings"
	"testing"

	"timeweft/api"
	"timeweft/bsp"
	"timeweft/cheap"
	"timeweft/desk"
	"timeweft/early"
	"timeweft/graph"
	"timeweft/internal/probe"
	"timeweft/journey"
	"timeweft/plain"
)

// reading is a second one of the document: each line is held against the form of its kind as a whole.
type reading struct {
	form *regexp.Regexp
	text string
	// told counts the lines of each kind that were answered without an error.
	told map[string]int
}

func newReading() *reading {
	form := `\A(?:(clear)|(show)|(graph)(?: .*)?|(labels) N|(hops|costs|all|early|late|cheap|few|fast) N N|(go) N N((?: N@N)*))\z`
	number := `(?:0|[1-9][0-9]{0,3})`
	form = strings.ReplaceAll(form, "N@N", number+"@"+number)
	return &reading{regexp.MustCompile("(?s)" + strings.ReplaceAll(form, "N", number)), "", map[string]int{}}
}

// answers is what a text is to be answered.
func (r *reading) answers(text string) string {
	r.text = ""
	lines := strings.SplitAfter(text, "\n")
	if lines[len(lines)-1] == "" {
		lines = lines[:len(lines)-1]
	}
	if len(text) > 1<<16 || len(lines) > 200 {
		return "error 2\n"
	}
	all := ""
	for _, line := range lines {
		line = regexp.MustCompile(" +").ReplaceAllString(strings.TrimSuffix(line, "\n"), " ")
		if line = strings.Trim(line, " "); line != "" && !strings.HasPrefix(line, "#") {
			all += r.answer(line) + "\n"
		}
	}
	return all
}

// answer takes a line with one blank between its words.
func (r *reading) answer(line string) string {
	if !r.form.MatchString(line) {
		return "error 3"
	}
	kind, behind, _ := strings.Cut(line, " ")
	switch kind {
	case "clear":
		r.text = ""
		return "ok"
	case "graph":
		if len(r.text)+len(behind)+1 > 8192 {
			return "error 2"
		}
		r.text += behind + "\n"
		return "ok"
	}
	g, at, e := graph.Parse(r.text)
	if e != api.OK {
		return fmt.Sprintf("error %d %d", e, at)
	}
	var n []int
	for _, w := range regexp.MustCompile("[0-9]+").FindAllString(behind, -1) {
		i, _ := strconv.Atoi(w)
		n = append(n, i)
	}
	s, e := r.ask(g, kind, n)
	if e != api.OK {
		return fmt.Sprintf("error %d", e)
	}
	r.told[kind]++
	return s
}

func (r *reading) ask(g api.Graph, kind string, n []int) (string, api.Errno) {
	switch kind {
	case "show":
		s, e := graph.Print(g)
		return s + "ok", e
	case "hops", "costs", "labels":
		s, e := graph.At(g, n[0])
		if e != api.OK {
			return "", e
		}
		if kind == "labels" {
			return words(plain.Labels(s))
		}
		return words(map[string]func(api.Snapshot, int) ([]int, api.Errno){"hops": plain.Hops, "costs": plain.Costs}[kind](s, n[1]))
	case "all":
		maps, _, e := bsp.Run(g, n[0], n[1])
		return maplines(maps), e
	case "fast":
		d, at, e := cheap.Fastest(g, n[0], n[1])
		return fmt.Sprintf("%d %d", d, at), e
	case "go":
		var l []api.Hop
		for i := 2; i < len(n); i += 2 {
			l = append(l, api.Hop{Edge: n[i], Depart: n[i+1]})
		}
		v, at, cost, e := journey.Go(g, n[0], n[1], l)
		return fmt.Sprintf("%d %d %d", v, at, cost), e
	}
	calls := map[string]func(api.Graph, int, int) ([]int, api.Errno){"early": early.Arrivals, "late": early.Departures, "cheap": cheap.Costs, "few": cheap.Hops}
	return words(calls[kind](g, n[0], n[1]))
}

// words tells numbers as the library writes a list, with the brackets taken away.
func words(l []int, e api.Errno) (string, api.Errno) {
	if len(l) == 0 {
		return "none", e
	}
	return strings.ReplaceAll(strings.Trim(fmt.Sprint(l), "[]"), fmt.Sprint(1<<40), "-"), e
}

func maplines(maps [][]api.Piece) string {
	s := ""
	for _, m := range maps {
		part := ""
		for _, p := range m {
			part += fmt.Sprintf(",%d-%d:%d", p.From, p.To, p.Value)
		}
		if part == "" {
			part = ",-"
		}
		s += " " + part[1:]
	}
	if s == "" {
		return "none"
	}
	return s[1:]
}

// hold runs a text, and reports an answer that isn't as the reading has it.
func (r *reading) hold(t *testing.T, text string) {
	t.Helper()
	runs(t, text, r.answers(text))
}

// asked are lines about a graph: of each vertex and one that is none, at each of some times.
func asked(g api.Graph, times []int) []string {
	lines := list("show")
	for _, at := range times {
		lines = append(lines, fmt.Sprint("labels ", at))
		for v := range len(g.Lives) + 1 {
			lines = append(lines, fmt.Sprint("hops ", at, v), fmt.Sprint("costs ", at, v))
			for _, kind := range list("early", "late", "cheap", "few", "go") {
				lines = append(lines, fmt.Sprint(kind+" ", v, at))
			}
		}
	}
	for v := range len(g.Lives) + 1 {
		for program := range 5 {
			lines = append(lines, fmt.Sprint("all ", program, v))
		}
		for w := range len(g.Lives) + 1 {
			lines = append(lines, fmt.Sprint("fast ", v, w))
		}
	}
	return lines
}

// parts are few enough lines each, so that there is room for more ahead of them.
func parts(lines []string, room int) [][]string {
	var all [][]string
	for len(lines) > room {
		all = append(all, lines[:room])
		lines = lines[room:]
	}
	return append(all, lines)
}

// TestGraphs: all that can be asked of the sample graphs, and of greater ones, the same each time.
func TestGraphs(t *testing.T) {
	r, below := newReading(), rand.New(rand.NewSource(13)).Intn
	graphs := rightGraphs()
	for range 40 {
		graphs = append(graphs, probe.SomeGraph(below))
	}
	for _, g := range graphs {
		in, oks := lay(printed(t, g))
		lines := strings.Count(in, "\n")
		if lines >= api.MaxScript {
			continue
		}
		times := list(0, g.Horizon-1, g.Horizon, below(g.Horizon), below(g.Horizon))
		for _, part := range parts(asked(g, times), api.MaxScript-lines) {
			text := in + script(part...)
			r.hold(t, text)
			if !strings.HasPrefix(desk.Run(text), oks) {
				t.Fatal("a graph that can't be laid", text)
			}
		}
	}
	for _, kind := range list("show", "labels", "hops", "costs", "all", "early", "late", "cheap", "few", "fast", "go") {
		if r.told[kind] == 0 {
			t.Error("never told", kind)
		}
	}
}

// TestWays: whichever way the program tells, one can go it at the desk, and comes when and for what is told.
func TestWays(t *testing.T) {
	for i, g := range rightGraphs() {
		in, _ := lay(printed(t, g))
		if strings.Count(in, "\n") >= api.MaxScript || len(g.Lives) == 0 {
			continue
		}
		times, _ := early.Arrivals(g, 0, 0)
		costs, _ := cheap.Costs(g, 0, 0)
		for to := range g.Lives {
			soon, e := early.Way(g, 0, 0, to)
			if e != api.OK {
				continue
			}
			low, _ := cheap.Way(g, 0, 0, to)
			_, _, cost, _ := journey.Go(g, 0, 0, soon)
			_, at, _, _ := journey.Go(g, 0, 0, low)
			got := desk.Run(in + goLine(soon) + goLine(low))
			if want := fmt.Sprintf("ok\n%d %d %d\n%d %d %d\n", to, times[to], cost, to, at, costs[to]); !strings.HasSuffix(got, want) {
				t.Errorf("%d %d: %q, not %q", i, to, got, want)
			}
		}
	}
}

func goLine(l []api.Hop) string {
	s := "go 0 0"
	for _, h := range l {
		s += fmt.Sprintf(" %d@%d", h.Edge, h.Depart)
	}
	return s + "\n"
}

// TestSmallLines: all lines of up to four pieces of these, beside a graph.
func TestSmallLines(t *testing.T) {
	r := newReading()
	pieces := list("go", "labels", "hops", "graph", "clear", "#", "0", "1", "05", "1@1", "@", " ", "")
	in, _ := lay(lineText)
	var all []string
	var longer func(line string, left int)
	longer = func(line string, left int) {
		all = append(all, line)
		if left == 0 {
			return
		}
		for _, p := range pieces {
			longer(line+" "+p, left-1)
		}
	}
	for _, p := range pieces {
		longer(p, 3)
	}
	// Each one is asked alone, so that none spoils the text for the next; what became of the text is shown.
	for _, line := range all {
		r.hold(t, in+line+"\nshow\n")
	}
}

// TestChangedBytes: a text with any byte left out, put in, or changed.
func TestChangedBytes(t *testing.T) {
	r := newReading()
	in, _ := lay("time 9\nvertex 0 9\nvertex 1 9\nedge 0 1\nleg 0 3 2 5\n")
	s := in + "hops 2 0\nlabels 0\n# no\nall 2 0\nlate 1 8\ngo 0 0 0@1\nshow\nclear\nfew 0 0\n"
	r.hold(t, s)
	for i := range len(s) {
		r.hold(t, s[:i])
		r.hold(t, s[i:])
		r.hold(t, s[:i]+s[i+1:])
		for _, c := range []byte("0159 -@#/:\n\r\tes\x00\xff") {
			r.hold(t, s[:i]+string([]byte{c})+s[i:])
			r.hold(t, s[:i]+string([]byte{c})+s[i+1:])
		}
	}
}

// someLine is one of any kind, mostly written right.
func someLine(below func(n int) int) string {
	if below(3) == 0 {
		kinds := list("graph time 9", "graph vertex 0 9", "graph vertex 2 7", "graph edge 0 1", "graph edge 1 0", "graph leg 0 3 1 4", "graph leg 4 8 2 1", "graph", "graph x", "clear", "show", "#", "", "x")
		return kinds[below(len(kinds))]
	}
	kinds := list("hops", "costs", "labels", "all", "early", "late", "cheap", "few", "fast", "go", "show")
	line := kinds[below(len(kinds))]
	for range list(2, 2, 2, 2, 1, 0, 3)[below(7)] {
		line += strings.Repeat(" ", 1+below(2)) + fmt.Sprint(below(list(2, 2, 10, 12000)[below(4)]))
	}
	for range below(4) / 2 * below(3) {
		line += fmt.Sprintf(" %d@%d", below(3), below(10))
	}
	return line
}

// TestLongScripts: desks at which much is done; the same ones each time.
func TestLongScripts(t *testing.T) {
	r, below := newReading(), rand.New(rand.NewSource(24)).Intn
	start := list("graph time 9", "graph vertex 0 9", "graph vertex 2 7", "graph edge 0 1", "graph leg 0 3 1 4")
	for range 400 {
		lines := start[:below(len(start)+1)]
		for range below(api.MaxScript + 3 - len(lines)) {
			lines = append(lines[:len(lines):len(lines)], someLine(below))
		}
		r.hold(t, strings.Join(lines, "\n"))
		r.hold(t, script(lines...))
	}
}

// TestWildTexts: whatever bytes there are they are answered.
func TestWildTexts(t *testing.T) {
	r, random := newReading(), rand.New(rand.NewSource(42))
	for _, n := range list(1, 2, 3, 10, 100, 1000, 10000, maxBytes, maxBytes+1) {
		for range 20 {
			b := make([]byte, n)
			random.Read(b)
			r.hold(t, string(b))
			for i := range b {
				b[i] = "graph clear show 019@#\n"[b[i]%23]
			}
			r.hold(t, string(b))
		}
	}
}
