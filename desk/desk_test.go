package desk_test

import (
	"fmt"
	"strings"
	"testing"

	"timeweft/api"
	"timeweft/desk"
	"timeweft/graph"
	"timeweft/internal/probe"
)

// What the tests of several packages have is short here.
var (
	leg, edge   = probe.Leg, probe.Edge
	everAlive   = probe.EverAlive
	rightGraphs = probe.RightGraphs
)

// list is short for one list.
func list[T any](l ...T) []T {
	return l
}

// script has a byte 10 behind each line.
func script(lines ...string) string {
	return strings.Join(append(lines, ""), "\n")
}

// runs reports an answer that isn't the one that is wanted.
func runs(t *testing.T, text, want string) {
	t.Helper()
	if got := desk.Run(text); got != want {
		t.Errorf("%.2000q:\n%.2000q, not\n%.2000q", text, got, want)
	}
}

// lay are the lines by which a text comes to the desk, and their answers.
func lay(text string) (string, string) {
	in := ""
	for _, line := range strings.SplitAfter(text, "\n") {
		if line != "" {
			in += "graph " + line
		}
	}
	return in, strings.Repeat("ok\n", strings.Count(in, "\n"))
}

// beside reports answers that aren't those that are wanted, when a text lies on the desk; lines and answers stand in turn.
func beside(t *testing.T, text string, turns ...string) {
	t.Helper()
	in, want := lay(text)
	for i := 0; i < len(turns); i += 2 {
		in += turns[i] + "\n"
		want += turns[i+1] + "\n"
	}
	runs(t, in, want)
}

// printed is a right graph's text.
func printed(t *testing.T, g api.Graph) string {
	t.Helper()
	s, e := graph.Print(g)
	if e != api.OK {
		t.Fatal(g, e)
	}
	return s
}

// lineText is the graph of the README: who waits pays less, and the third vertex comes later.
const lineText = "time 12\nvertex 0 12\nvertex 0 12\nvertex 1 12\nedge 0 1\nleg 0 3 2 5\nleg 3 6 1 1\nedge 1 2\nleg 4 5 3 2\n"

// numbered has a line that is written right for each first word, but graph and clear.
func numbered() []string {
	return list("show", "hops 0 0", "costs 0 0", "labels 0", "all 1 0", "early 0 0", "cheap 0 0", "few 0 0", "late 0 0", "fast 0 0", "go 0 0", "go 0 0 0@0")
}

// TestExample: `early 0 1` is answered `1 3`.
func TestExample(t *testing.T) {
	beside(t, "time 5\nvertex 0 5\nvertex 0 5\nedge 0 1\nleg 0 3 2 5\n", "early 0 1", "1 3")
}

func TestAnswers(t *testing.T) {
	beside(t, lineText,
		"show", lineText+"ok",
		"hops 4 0", "0 1 2",
		"hops 4 2", "- - 0",
		"hops 0 0", "0 1 -",
		"hops 0 2", "- - -",
		"costs 4 0", "0 1 3",
		"costs 2 0", "0 5 -",
		"costs 11 1", "- 0 -",
		"labels 0", "0 0 -",
		"labels 4", "0 0 0",
		"labels 11", "0 1 2",
		"all 1 0", "0-12:0 0-6:1 4-5:2",
		"all 2 0", "0-12:0 0-3:5,3-6:1 4-5:3",
		"all 3 0", "0-12:0 0-6:0,6-12:1 1-4:2,4-5:0,5-12:2",
		"all 3 9999", "0-12:0 0-6:0,6-12:1 1-4:2,4-5:0,5-12:2",
		"all 1 2", "- - 1-12:0",
		"early 0 0", "0 2 7",
		"early 0 4", "4 5 -",
		"early 2 0", "- - -",
		"late 2 11", "3 4 11",
		"late 2 6", "-1 -1 6",
		"late 2 0", "-1 -1 -1",
		"late 0 0", "0 -1 -1",
		"cheap 0 0", "0 1 3",
		"cheap 0 4", "0 1 -",
		"few 0 0", "0 1 2",
		"few 1 5", "- 0 -",
		"fast 0 2", "4 3",
		"fast 2 2", "0 1",
		"fast 0 0", "0 0",
		"go 0 0 0@3 1@4", "2 7 3",
		"go 0 1 0@2", "1 4 5",
		"go 2 1", "2 1 0",
	)
}

// TestErrors: what a call answers is told by its number, and of two calls the first one's.
func TestErrors(t *testing.T) {
	beside(t, lineText,
		"hops 12 0", "error 1",
		"hops 0 3", "error 4",
		"hops 12 3", "error 1",
		"hops 9999 9999", "error 1",
		"costs 12 0", "error 1",
		"costs 11 3", "error 4",
		"costs 12 3", "error 1",
		"labels 12", "error 1",
		"labels 9999", "error 1",
		"all 0 0", "error 1",
		"all 4 0", "error 1",
		"all 4 3", "error 1",
		"all 1 3", "error 4",
		"all 2 9999", "error 4",
		"early 3 0", "error 4",
		"early 0 12", "error 1",
		"early 3 12", "error 4",
		"late 3 0", "error 4",
		"late 0 12", "error 1",
		"late 3 12", "error 4",
		"cheap 3 0", "error 4",
		"cheap 0 12", "error 1",
		"few 3 12", "error 4",
		"few 0 12", "error 1",
		"fast 3 0", "error 4",
		"fast 0 3", "error 4",
		"fast 2 0", "error 4",
		"go 3 0", "error 4",
		"go 0 12", "error 1",
		"go 3 12 9@9", "error 4",
		"go 2 0", "error 5",
		"go 0 0 1@4", "error 5",
		"go 0 0 2@0", "error 5",
		"go 0 0 0@6", "error 5",
		"go 0 4 0@3", "error 5",
		"go 0 0 0@9999", "error 5",
		"go 0 0 9999@0", "error 5",
		// Nothing of it spoils what comes later.
		"early 0 0", "0 2 7",
	)
}

// TestNone: of a graph without vertices there are no numbers.
func TestNone(t *testing.T) {
	beside(t, "time 5\n",
		"show", "time 5\nok",
		"labels 0", "none",
		"labels 4", "none",
		"labels 5", "error 1",
		"all 3 0", "none",
		"all 3 7", "none",
		"all 1 0", "error 4",
		"all 4 0", "error 1",
		"hops 0 0", "error 4",
		"costs 0 0", "error 4",
		"hops 5 0", "error 1",
		"early 0 0", "error 4",
		"late 0 0", "error 4",
		"cheap 0 0", "error 4",
		"few 0 0", "error 4",
		"fast 0 0", "error 4",
		"go 0 0", "error 4",
	)
}

// TestGraphErrors: each line that asks the graph tells what is wrong with its text, and where.
func TestGraphErrors(t *testing.T) {
	for _, c := range []struct {
		text, want string
	}{
		{"", "error 3 1"},
		{"x\n", "error 3 1"},
		{"vertex 0 5\n", "error 3 1"},
		{"time 05\n", "error 3 1"},
		{"time 5\ntime 5\n", "error 3 2"},
		{"time 5\nvertex 0 5\nvertex 0 55555\n", "error 3 3"},
		{"time 5\n" + strings.Repeat("vertex 0 5\n", 11) + "leg 0 1 1 1\n", "error 3 13"},
		{"time 0\n", "error 1 0"},
		{"time 101\n", "error 1 0"},
		{"time 5\nvertex 0 6\n", "error 1 0"},
		{"time 5\n" + strings.Repeat("vertex 0 5\n", 13), "error 2 0"},
		{"time 5\nedge 0 0\n", "error 4 0"},
		{"time 5\nvertex 0 5\nedge 0 0\nleg 0 3 1 1\nleg 2 4 1 1\n", "error 5 0"},
	} {
		var turns []string
		for _, line := range append(numbered(), "hops 9999 9999", "all 0 0", "go 9 9 9@9") {
			turns = append(turns, line, c.want)
		}
		beside(t, c.text, turns...)
	}
}

// TestWordsFirst: how a line is written is asked for ahead of the graph, of all of its words.
func TestWordsFirst(t *testing.T) {
	beside(t, "x\n",
		"show x", "error 3",
		"hops 0", "error 3",
		"hops 0 x", "error 3",
		"all 0 01", "error 3",
		"go 0 0 0", "error 3",
		"go 0 0 0@0 x", "error 3",
		"go 0 0 0@0", "error 3 1",
	)
	beside(t, lineText,
		"hops 99 x", "error 3",
		"early 9 00", "error 3",
		"go 9 99 x", "error 3",
		"go 0 0 1@4 x", "error 3",
	)
}

// TestWordCounts: each line with a word less, and a word more, than stand in the document.
func TestWordCounts(t *testing.T) {
	for _, line := range append(numbered(), "clear") {
		words := strings.Fields(line)
		if words[0] == "go" {
			continue
		}
		for n := range 6 {
			if n+1 == len(words) {
				continue
			}
			other := words[0] + strings.Repeat(" 0", n)
			beside(t, lineText, other, "error 3", "show", lineText+"ok")
		}
	}
	beside(t, lineText, "go", "error 3", "go 0", "error 3", "go 0 0", "0 0 0")
}

// TestFirstWords: no other word is one, not even one that is nearly right.
func TestFirstWords(t *testing.T) {
	for _, line := range append(numbered(), "clear", "graph x") {
		word, behind, _ := strings.Cut(line, " ")
		for _, other := range list(word+"s", word[1:], word[:len(word)-1], strings.ToUpper(word), strings.ToUpper(word[:1])+word[1:],
			"x"+word, word+"\t", "\t"+word, word+"\r", word+"\x00", "\u00a0"+word, word+"#", "-"+word, "'"+word+"'", word+"\t0\t0", word+",") {
			beside(t, lineText, other+" "+behind, "error 3", "show", lineText+"ok")
		}
	}
	for _, word := range list("0", "12", "ok", "error", "none", "-", "x", "\x00", "\xff", "\t", "\r", "time", "vertex", "at", "parse", "check", "ä", "exit") {
		beside(t, lineText, word, "error 3", word+" 0", "error 3", word+" 0 0", "error 3", "show", lineText+"ok")
		// Nor is the text looked at.
		beside(t, "", word, "error 3", word+" 0", "error 3", word+" 0 0", "error 3")
	}
}

// TestNumbers: what is a number, and what is none, wherever one stands.
func TestNumbers(t *testing.T) {
	places := list("hops N 0", "hops 0 N", "costs N 0", "costs 0 N", "labels N", "all N 0", "all 3 N", "early N 0", "early 0 N",
		"late N 0", "late 0 N", "cheap N 0", "cheap 0 N", "few N 0", "few 0 N", "fast N 0", "fast 0 N", "go N 0", "go 0 N",
		"go 0 0 N@0", "go 0 0 0@N", "go 0 0 0@0 N@0", "go 0 0 0@0 0@N")
	for _, place := range places {
		for _, n := range list("00", "01", "000", "0000", "00000", "0001", "10000", "12345", "99999999999999999999", "18446744073709551616",
			"-1", "-0", "+1", "1.0", "1e1", "0x1", "1_0", "x", "1x", "x1", "/", ":", "1/", "1:", "\t1", "1\t", "1\r", "\x001", "\u0661", "@", "1@1", "#", "-") {
			beside(t, lineText, strings.ReplaceAll(place, "N", n), "error 3")
		}
		for _, n := range list("0", "1", "9", "10", "99", "100", "999", "1000", "9999") {
			in, want := lay(lineText)
			got, ok := strings.CutPrefix(desk.Run(in+strings.ReplaceAll(place, "N", n)), want)
			if !ok || got == "error 3\n" {
				t.Error(place, n, got)
			}
		}
	}
}

// TestHopForms: a hop has two numbers, and one @ between.
func TestHopForms(t *testing.T) {
	for _, hop := range list("0", "@", "0@", "@0", "00@0", "0@00", "0@0@0", "0@@0", "@0@0", "0@0@", "0:0", "0-0", "0,0", "0@0,", "0@10000", "10000@0", "0@-1", "-1@0", "0@x", "x@0", "#", "0@0#") {
		beside(t, lineText, "go 0 0 "+hop, "error 3", "go 0 0 0@3 "+hop, "error 3", "go 0 0 "+hop+" 0@3", "error 3")
	}
	beside(t, lineText, "go 0 0 0 @3", "error 3", "go 0 0 0@ 3", "error 3", "go 0 0 0 @ 3", "error 3", "go 0 0  0@3   1@4 ", "2 7 3")
}

// TestManyHops: there may be 500, as journey.Go says.
func TestManyHops(t *testing.T) {
	beside(t, lineText,
		"go 0 0"+strings.Repeat(" 9@9", api.MaxHops), "error 5",
		"go 0 0"+strings.Repeat(" 9@9", api.MaxHops+1), "error 2",
		"go 0 12"+strings.Repeat(" 9@9", api.MaxHops+1), "error 1",
		"go 3 0"+strings.Repeat(" 9@9", api.MaxHops+1), "error 4",
		"go 0 0"+strings.Repeat(" 9@9", api.MaxHops+1)+" x", "error 3",
	)
	long := everAlive(100, 1, edge(0, 0, leg(0, 100, 1, 1000)))
	hops := ""
	for at := range 99 {
		hops += fmt.Sprintf(" 0@%d", at)
	}
	beside(t, printed(t, long), "go 0 0"+hops, "0 99 99000", "go 0 0"+hops+" 0@99", "error 5")
}
