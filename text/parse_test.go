package text_test

import (
	"fmt"
	"strings"
	"testing"

	"filigree/api"
	"filigree/text"
)

// P502: texts of graphs, with edges and their ends in any order.
func TestParse(t *testing.T) {
	isParsed(t, "graph 2 1\nedge 1 0 5\n", weighed(2, 0, 1, 5)) // the chapter's example
	isParsed(t, "graph 2 1\nedge 0 1 5\n", weighed(2, 0, 1, 5))
	isParsed(t, "graph 3 3\nedge 2 1 2\nedge 2 0 3\nedge 1 0 1\n",
		api.Graph{N: 3, E: []api.Edge{{U: 0, V: 1, W: 1}, {U: 0, V: 2, W: 3}, {U: 1, V: 2, W: 2}}})
	isParsed(t, "graph 12 3\nedge 11 10 -1\nedge 2 10 0\nedge 9 2 123\n",
		api.Graph{N: 12, E: []api.Edge{{U: 2, V: 9, W: 123}, {U: 2, V: 10}, {U: 10, V: 11, W: -1}}})
	d := dice(502)
	for _, g := range samples() {
		isParsed(t, textOf(g), g)
		for range 3 {
			isParsed(t, textOf(d.mixed(g)), g)
		}
	}
}

// P502: the number of vertices at its ends, and one beyond each.
func TestParseVertices(t *testing.T) {
	isParsed(t, "graph 0 0\n", api.Graph{})
	isParsed(t, "graph 1 0\n", api.Graph{N: 1})
	isParsed(t, "graph 1048576 0\n", api.Graph{N: api.MaxN})
	isParsed(t, "graph 1048576 1\nedge 1048575 0 1\n", weighed(api.MaxN, 0, api.MaxN-1, 1))
	isWrongAt(t, "graph -1 0\n", 1, api.BadArg)
	isWrongAt(t, "graph -9223372036854775808 0\n", 1, api.BadArg)
	isWrongAt(t, "graph 1048577 0\n", 1, api.TooLarge)
	isWrongAt(t, "graph 4294967296 0\n", 1, api.TooLarge)
	isWrongAt(t, "graph 9223372036854775807 0\n", 1, api.TooLarge)
	isWrongAt(t, "graph 9223372036854775808 0\n", 1, api.BadText)
	isWrongAt(t, "graph -9223372036854775809 0\n", 1, api.BadText)
}

// P502: the number of edges at its ends, and one beyond each; which of two is told of the first line.
func TestParseNumberOfEdges(t *testing.T) {
	isWrongAt(t, "graph 2 -1\n", 1, api.BadArg)
	isWrongAt(t, "graph 2 -9223372036854775808\n", 1, api.BadArg)
	isWrongAt(t, "graph 2 4194304\n", 2, api.BadText)
	isWrongAt(t, "graph 2 4194305\n", 1, api.TooLarge)
	isWrongAt(t, "graph 2 4294967296\n", 1, api.TooLarge)
	isWrongAt(t, "graph 2 9223372036854775807\n", 1, api.TooLarge)
	isWrongAt(t, "graph 2 9223372036854775808\n", 1, api.BadText)
	isWrongAt(t, "graph 2 -9223372036854775809\n", 1, api.BadText)

	isWrongAt(t, "graph -1 -1\n", 1, api.BadArg)
	isWrongAt(t, "graph -1 4194305\n", 1, api.BadArg)
	isWrongAt(t, "graph 1048577 -1\n", 1, api.BadArg)
	isWrongAt(t, "graph 1048577 4194305\n", 1, api.TooLarge)
	isWrongAt(t, "graph -1 x\n", 1, api.BadText)
	isWrongAt(t, "graph 1048577 01\n", 1, api.BadText)
	isWrongAt(t, "graph -1 0", 1, api.BadText)
}

// P502: weights at the ends of their range, and one beyond each.
func TestParseWeights(t *testing.T) {
	isParsed(t, "graph 2 1\nedge 0 1 0\n", weighed(2, 0, 1, 0))
	isParsed(t, "graph 2 1\nedge 0 1 2147483647\n", weighed(2, 0, 1, api.MaxW-1))
	isParsed(t, "graph 2 1\nedge 0 1 -2147483647\n", weighed(2, 0, 1, 1-api.MaxW))
	for _, w := range []string{"2147483648", "-2147483648", "4294967297", "9223372036854775807", "-9223372036854775808"} {
		isWrongAt(t, "graph 2 1\nedge 0 1 "+w+"\n", 2, api.BadWeight)
	}
	for _, w := range []string{"9223372036854775808", "-9223372036854775809", "-0", "00", "+1", ""} {
		isWrongAt(t, "graph 2 1\nedge 0 1 "+w+"\n", 2, api.BadText)
	}
}

// P502: ends that are no vertices, and loops.
func TestParseEnds(t *testing.T) {
	for _, ends := range []string{"0 3", "3 0", "-1 0", "0 -1", "3 3", "-1 -1", "-1 3", "1048576 0", "4294967296 1", "9223372036854775807 0", "0 -9223372036854775808"} {
		isWrongAt(t, "graph 3 1\nedge "+ends+" 1\n", 2, api.BadVertex)
	}
	isWrongAt(t, "graph 0 1\nedge 0 0 1\n", 2, api.BadVertex)
	isWrongAt(t, "graph 2 1\nedge 1 1 5\n", 2, api.Loop) // the chapter's example
	isWrongAt(t, "graph 1 1\nedge 0 0 0\n", 2, api.Loop)
	isWrongAt(t, "graph 1048576 1\nedge 1048575 1048575 0\n", 2, api.Loop)
}

// P502: of one line the kind that is named first.
func TestParseTwoInOneLine(t *testing.T) {
	for line, kind := range map[string]api.Kind{
		"edge 3 3 x":          api.BadText,
		"edge 1 1 01":         api.BadText,
		"edge 0 1 2147483648": api.BadWeight,
		"edge 3 3 2147483648": api.BadVertex,
		"edge 3 1 2147483648": api.BadVertex,
		"edge 3 3 1":          api.BadVertex,
		"edge 1 1 2147483648": api.Loop,
		"edge 0 1 1 1":        api.BadText,
		"edge 3 3 1 ":         api.BadText,
		"node 1 1 1":          api.BadText,
	} {
		isWrongAt(t, "graph 3 1\n"+line+"\n", 2, kind)
	}
	isWrongAt(t, "graph 3 1\nedge 1 1 2147483648", 2, api.BadText)
	isWrongAt(t, "graph 3 1\nedge 3 3 1", 2, api.BadText)
}

// spoilt is lines of edges, in a graph of 6 vertices, each with one thing wrong.
func spoilt() map[string]api.Kind {
	return map[string]api.Kind{
		"edge 4 6 1":           api.BadVertex,
		"edge -1 5 1":          api.BadVertex,
		"edge 5 5 1":           api.Loop,
		"edge 4 5 2147483648":  api.BadWeight,
		"edge 4 5 -2147483648": api.BadWeight,
		"edge 4 5":             api.BadText,
		"edge 4 05 1":          api.BadText,
		"":                     api.BadText,
		"graph 6 1":            api.BadText,
	}
}

// fiveEdges is a text of a graph of 6 vertices and 5 edges, by lines.
func fiveEdges() []string {
	return []string{"graph 6 5", "edge 1 0 1", "edge 2 5 2", "edge 3 1 -3", "edge 0 5 4", "edge 2 3 5"}
}

// ended is these lines, each with its end.
func ended(lines []string) string { return strings.Join(lines, "\n") + "\n" }

// P502: each kind at the first edge's line, a middle one and the last one.
func TestParseWrongLine(t *testing.T) {
	for line, kind := range spoilt() {
		for _, at := range []int{2, 4, 6} {
			lines := fiveEdges()
			lines[at-1] = line
			isWrongAt(t, ended(lines), at, kind)
		}
	}
}

// P502: of two lines that are wrong the first one is told, whatever its kind; ends that are there twice are told last.
func TestParseTwoWrongLines(t *testing.T) {
	for first, kind := range spoilt() {
		for second := range spoilt() {
			lines := fiveEdges()
			lines[2], lines[4] = first, second
			isWrongAt(t, ended(lines), 3, kind)
		}
		lines := fiveEdges()
		lines[2], lines[4] = lines[1], first
		isWrongAt(t, ended(lines), 5, kind)
		isWrongAt(t, ended(lines[:4]), 5, api.BadText)
		lines = fiveEdges()
		lines[3] = first
		isWrongAt(t, ended(append(lines, "edge 0 2 1")), 4, kind)
		isWrongAt(t, strings.TrimSuffix(ended(lines), "\n"), 4, kind)
		for head, headKind := range map[string]api.Kind{"graph -1 5": api.BadArg, "graph 6 -1": api.BadArg, "graph 1048577 5": api.TooLarge, "graph 6 4194305": api.TooLarge, "graph 6": api.BadText} {
			lines[0] = head
			isWrongAt(t, ended(lines), 1, headKind)
		}
	}
}

// P502: the same two ends twice, in either order, next to each other and far apart, whatever the weights.
func TestParseTwice(t *testing.T) {
	for _, again := range []string{"edge 1 0 1", "edge 0 1 1", "edge 0 1 7", "edge 1 0 -7"} {
		for _, at := range []int{2, 3, 5} {
			lines := fiveEdges()
			lines[at] = again
			isRefused(t, ended(lines), "text", 0, api.Twice)
		}
		lines := append(fiveEdges(), again)
		isWrongAt(t, ended(lines), 7, api.BadText)
		lines[0] = "graph 6 6"
		isRefused(t, ended(lines), "text", 0, api.Twice)
		isWrongAt(t, strings.TrimSuffix(ended(lines), "\n"), 7, api.BadText)
	}
}

// P502: lines that are missing, not ended, or too many.
func TestParseMissingLines(t *testing.T) {
	isWrongAt(t, "", 1, api.BadText)
	isWrongAt(t, "\n", 1, api.BadText)
	whole := ended(fiveEdges())
	for cut := range len(whole) {
		isWrongAt(t, whole[:cut], strings.Count(whole[:cut], "\n")+1, api.BadText)
	}
	for _, more := range []string{"\n", " ", "x", "\x00", "edge 0 2 1", "edge 0 2 1\n", "edge 1 0 1\n", "graph 6 5\n", whole, "\n\n", "\r\n"} {
		isWrongAt(t, whole+more, 7, api.BadText)
		isWrongAt(t, "graph 6 0\n"+more, 2, api.BadText)
	}
	isWrongAt(t, "\n"+whole, 1, api.BadText)
	isWrongAt(t, "graph 6 5\n\n"+strings.TrimPrefix(whole, "graph 6 5\n"), 2, api.BadText)
	if _, err := text.Parse(nil); err == nil || err.Error() != "line 1: filigree error 3" {
		t.Errorf("Parse(nil): %v", err)
	}
}

// P502: blanks that are missing, doubled or at a line's end, and other bytes in their place or in an end's.
func TestParseBlanks(t *testing.T) {
	for _, s := range []string{
		"graph6 1\nedge 0 1 1\n", "graph 61\nedge 0 1 1\n", "graph  6 1\nedge 0 1 1\n", "graph 6  1\nedge 0 1 1\n", " graph 6 1\nedge 0 1 1\n", "graph 6 1 \nedge 0 1 1\n",
		"graph\t6 1\nedge 0 1 1\n", "graph 6\t1\nedge 0 1 1\n", "graph 6\u00a01\nedge 0 1 1\n", "graph 6,1\nedge 0 1 1\n", "graph 6\n1\nedge 0 1 1\n", "graph\n6 1\nedge 0 1 1\n",
		"graph 6 1\r\nedge 0 1 1\n", "graph 6 1\redge 0 1 1\n", "graph 6 1 edge 0 1 1\n", "graph 6 1\x00edge 0 1 1\n", "graph 6 1\vedge 0 1 1\n", "graph 6 1\u2028edge 0 1 1\n", "graph 6 1\u0085edge 0 1 1\n",
		"Graph 6 1\nedge 0 1 1\n", "GRAPH 6 1\nedge 0 1 1\n", "\ufeffgraph 6 1\nedge 0 1 1\n", "graphs 6 1\nedge 0 1 1\n", "grap 6 1\nedge 0 1 1\n", "6 1\nedge 0 1 1\n", " 6 1\nedge 0 1 1\n", "edge 6 1\nedge 0 1 1\n", "graph 6 1 1\nedge 0 1 1\n", "graph 6\nedge 0 1 1\n", "graph\nedge 0 1 1\n", "graph \nedge 0 1 1\n", "graph  \n",
	} {
		isWrongAt(t, s, 1, api.BadText)
	}
	for _, line := range []string{
		"edge0 1 1\n", "edge 01 1\n", "edge 0 11\n", "edge  0 1 1\n", "edge 0  1 1\n", "edge 0 1  1\n", " edge 0 1 1\n", "edge 0 1 1 \n", "edge 0 1 \n", "edge 0 1\n", "edge\n", "edge \n", "edge   \n", "   \n", "\n",
		"edge\t0 1 1\n", "edge 0\t1 1\n", "edge 0 1\t1\n", "edge 0\u00a01 1\n", "edge 0,1 1\n", "edge 0\n1 1\n", "edge 0 1\n1\n",
		"edge 0 1 1\r\n", "edge 0 1 1\r", "edge 0 1 1\x00", "edge 0 1 1\v\n", "Edge 0 1 1\n", "edges 0 1 1\n", "edg 0 1 1\n", "0 1 1\n", " 0 1 1\n", "graph 0 1 1\n", "edge 0 1 1 1\n",
	} {
		isWrongAt(t, "graph 6 1\n"+line, 2, api.BadText)
	}
}

// P502: numbers that are none, in each place where one stands.
func TestParseNoNumbers(t *testing.T) {
	for _, n := range []string{"", "-", "+1", "-0", "01", "-01", "1.", "1e0", "0x1", "one", "1_0", "\u0661", "9223372036854775808", "-9223372036854775809", strings.Repeat("1", 500)} {
		isWrongAt(t, fmt.Sprintf("graph %s 1\nedge 0 1 1\n", n), 1, api.BadText)
		isWrongAt(t, fmt.Sprintf("graph 6 %s\nedge 0 1 1\n", n), 1, api.BadText)
		isWrongAt(t, fmt.Sprintf("graph 6 1\nedge %s 1 1\n", n), 2, api.BadText)
		isWrongAt(t, fmt.Sprintf("graph 6 1\nedge 0 %s 1\n", n), 2, api.BadText)
		isWrongAt(t, fmt.Sprintf("graph 6 1\nedge 0 1 %s\n", n), 2, api.BadText)
	}
}
