package desk_test

import (
	"strings"
	"testing"

	"timeweft/api"
	"timeweft/desk"
)

// maxBytes is how long a text may be.
const maxBytes = 65536

// TestLines: a line ends with a byte 10, or with the text; one without words, and a remark, is not answered.
func TestLines(t *testing.T) {
	for _, c := range []struct {
		text, want string
	}{
		{"", ""},
		{"\n", ""},
		{"\n\n\n", ""},
		{" ", ""},
		{"   \n  \n ", ""},
		{"clear", "ok\n"},
		{"clear\n", "ok\n"},
		{"clear\n\n", "ok\n"},
		{"\nclear", "ok\n"},
		{"clear\nclear", "ok\nok\n"},
		{"clear\n \nclear\n ", "ok\nok\n"},
		{"  clear   ", "ok\n"},
		{"clear clear", "error 3\n"},
		{"#", ""},
		{"#\n", ""},
		{"# clear\nclear", "ok\n"},
		{"#clear", ""},
		{"   #clear x\n", ""},
		{"##", ""},
		{"#\xff\x00", ""},
		{"clear #", "error 3\n"},
		{"clear# ", "error 3\n"},
		{"\t#", "error 3\n"},
		{"\t", "error 3\n"},
		{"\r\n", "error 3\n"},
		{"\x00\n", "error 3\n"},
		{"\x0b\n\x0c\n\u00a0\n\u2003\n\u2028\n\u0085", "error 3\nerror 3\nerror 3\nerror 3\nerror 3\nerror 3\n"},
		{"clear\r\n", "error 3\n"},
		{"clear\rclear\n", "error 3\n"},
		{"clear\x0bclear", "error 3\n"},
		{"clear\tx", "error 3\n"},
		{"x", "error 3\n"},
		{"x\nclear\ny", "error 3\nok\nerror 3\n"},
		{"show", "error 3 1\n"},
		{"\xff\xfe", "error 3\n"},
	} {
		runs(t, c.text, c.want)
	}
}

// TestTooManyLines: 200 are done, one more is not, nor any of them; those that are not answered count, too.
func TestTooManyLines(t *testing.T) {
	for _, line := range list("clear", "", " ", "#", "x", "show", "graph y") {
		want := desk.Run(line)
		runs(t, strings.Repeat(line+"\n", api.MaxScript), strings.Repeat(want, api.MaxScript))
		runs(t, strings.Repeat(line+"\n", api.MaxScript-1)+"clear", strings.Repeat(want, api.MaxScript-1)+"ok\n")
		runs(t, strings.Repeat(line+"\n", api.MaxScript)+"clear", "error 2\n")
		runs(t, strings.Repeat(line+"\n", api.MaxScript)+" ", "error 2\n")
		runs(t, strings.Repeat(line+"\n", api.MaxScript)+"\n", "error 2\n")
		runs(t, strings.Repeat(line+"\n", api.MaxScript+1), "error 2\n")
		runs(t, strings.Repeat(line+"\n", 9000), "error 2\n")
	}
}

// TestTooManyBytes: 65536 are done, one more is not, nor any of them.
func TestTooManyBytes(t *testing.T) {
	for _, c := range []struct {
		ahead, fill, want string
	}{
		{"", " ", ""},
		{"", "#", ""},
		{"", "x", "error 3\n"},
		{"", "\x00", "error 3\n"},
		{"", "\xff", "error 3\n"},
		{"", "\n", "error 2\n"},
		{"clear\n", " ", "ok\n"},
		{"clear\nshow\n", "#", "ok\nerror 3 1\n"},
		{"clear ", " ", "ok\n"},
		{"clear ", "x", "error 3\n"},
		{"graph ", "x", "error 2\n"},
		{"labels ", "1", "error 3\n"},
	} {
		full := c.ahead + strings.Repeat(c.fill, maxBytes-len(c.ahead))
		runs(t, full, c.want)
		runs(t, full+c.fill, "error 2\n")
		runs(t, full+"\n", "error 2\n")
		runs(t, full+strings.Repeat(c.fill, maxBytes), "error 2\n")
	}
	// Lines of blanks ahead: all 200 lines, and all bytes.
	line := strings.Repeat(" ", maxBytes/2-6) + "clear\n"
	runs(t, line+line, "ok\nok\n")
	runs(t, line+line+"#", "error 2\n")
	runs(t, " "+line+line, "error 2\n")
}

// TestGraphLines: the words of a line, whatever they are, with one blank between.
func TestGraphLines(t *testing.T) {
	runs(t, script("graph time 5", "graph   vertex  0    5  ", "   graph edge 0 0", "show"),
		"ok\nok\nok\ntime 5\nvertex 0 5\nedge 0 0\nok\n")
	runs(t, script("graph time 5", "graph vertex 0 5", "show")+"graph edge 0 0", "ok\nok\ntime 5\nvertex 0 5\nok\nok\n")
	for _, line := range list("x", "time 5 x", "time\t5", "time 5\r", "# time 5", "#", "graph time 5", "\x00", "\xff", "clear", "5 time", "TIME 5", "time 5\u00a0") {
		runs(t, script("graph "+line, "graph time 5", "labels 0"), "ok\nok\nerror 3 1\n")
		runs(t, script("graph time 5", "graph "+line, "labels 0"), "ok\nok\nerror 3 2\n")
	}
}

// TestGraphWithoutWords: there may be any number of words, and so none: an empty line, of which graph.Parse tells what it is.
func TestGraphWithoutWords(t *testing.T) {
	for _, line := range list("graph", "graph ", "  graph  ") {
		runs(t, script("graph time 5", line, "show", "clear", "graph time 5", "show"), "ok\nok\nerror 3 2\nok\nok\ntime 5\nok\n")
		runs(t, script(line, "graph time 5", "show"), "ok\nok\nerror 3 1\n")
	}
}

// TestClear: nothing of the text is left, and another one may be laid.
func TestClear(t *testing.T) {
	runs(t, script("clear", "show", "graph time 5", "show", "clear", "show", "graph time 6", "show", "clear", "clear", "labels 0"),
		"ok\nerror 3 1\nok\ntime 5\nok\nok\nerror 3 1\nok\ntime 6\nok\nok\nok\nerror 3 1\n")
	// A line that is written wrong clears nothing.
	runs(t, script("graph time 5", "clear x", "CLEAR", "#clear", "show"), "ok\nerror 3\nerror 3\ntime 5\nok\n")
}

// TestTextGrows: what was asked doesn't end the text.
func TestTextGrows(t *testing.T) {
	runs(t, script("graph time 5", "labels 0", "graph vertex 1 5", "labels 0", "labels 1", "graph vertex 0 2", "labels 0", "labels 1",
		"graph edge 1 0", "graph leg 1 2 1 7", "labels 1", "costs 1 1", "graph x", "costs 1 1"),
		"ok\nnone\nok\n-\n0\nok\n- 1\n0 1\nok\nok\n0 0\n7 0\nok\nerror 3 6\n")
}

// TestFullText: 8192 bytes there may be; a line for which there is no room is left out, and others may still come.
func TestFullText(t *testing.T) {
	// The byte 10 behind it counts, and blanks that are left out don't.
	word := func(n int) string { return "graph " + strings.Repeat("x", n-1) }
	runs(t, script(word(8192)), "ok\n")
	runs(t, script(word(8193)), "error 2\n")
	runs(t, script("graph    "+strings.Repeat(" ", 9000)+"x"+strings.Repeat(" ", 9000)+"y"), "ok\n")
	runs(t, script("graph "+strings.TrimSpace(strings.Repeat("x  ", 4096))), "ok\n")
	runs(t, script("graph "+strings.TrimSpace(strings.Repeat("x  ", 4096))+"y"), "error 2\n")
	runs(t, script(word(8000), word(192)), "ok\nok\n")
	runs(t, script(word(8000), word(193), word(191), "graph", "graph", "graph y"), "ok\nerror 2\nok\nok\nerror 2\nerror 2\n")
	runs(t, script(word(8192), word(2), "clear", word(8192), word(1)), "ok\nerror 2\nok\nok\nerror 2\n")
	runs(t, script(word(8192), word(50000)), "ok\nerror 2\n")
	// What was left out isn't in the text.
	runs(t, script("graph time 5", word(8192), "show", "graph vertex 0 5", word(8192), "show"), "ok\nerror 2\ntime 5\nok\nok\nerror 2\ntime 5\nvertex 0 5\nok\n")
	// graph.Parse takes a full text, too.
	runs(t, script("graph time 5", word(8192-7), "show", "early 0 0"), "ok\nok\nerror 3 2\nerror 3 2\n")
}

// TestNothingIsKept: each desk is a new one, also beside others.
func TestNothingIsKept(t *testing.T) {
	in, want := lay(lineText)
	in, want = in+"early 0 0\nshow\n", want+"0 2 7\n"+lineText+"ok\n"
	for range 3 {
		runs(t, in, want)
		runs(t, "show", "error 3 1\n")
		runs(t, "graph vertex 0 12\n", "ok\n")
	}
	answers := make(chan string)
	for range 8 {
		go func() { answers <- desk.Run(in) }()
	}
	for range 8 {
		if got := <-answers; got != want {
			t.Errorf("%q, not %q", got, want)
		}
	}
}
