package text_test

import (
	"bytes"
	"slices"
	"testing"

	"filigree/api"
	"filigree/text"
)

// Rule 4: what is handed in is not changed, its spare room neither.
func TestArgumentsStay(t *testing.T) {
	for _, s := range []string{"graph 3 2\nedge 2 1 -7\nedge 1 0 5\n", "graph 3 2\nedge 2 1 -7\nedge 1 1 5\n", "graph 3 2\nedge 2 1 -7\nedge 1 2 5\n", "graph 3 1\nedge 2 1 -7"} {
		whole := []byte(s + "edge 0 2 1\n")
		text.Parse(whole[:len(s)])
		if string(whole) != s+"edge 0 2 1\n" {
			t.Errorf("a text is changed: %q", whole)
		}
	}
	mark := api.Edge{U: 77, V: 78, W: 79}
	g := edges(4, 0, 1, 0, 3, 1, 2)
	whole := append(slices.Clone(g.E), mark, mark)
	for _, n := range []int{4, 3, -1} {
		text.Print(api.Graph{N: n, E: whole[:len(g.E)]})
		if !slices.Equal(whole, append(slices.Clone(g.E), mark, mark)) {
			t.Errorf("a graph's edges are changed: %v", whole)
		}
	}
}

// Rule 4: a graph that was parsed knows nothing of what is written into its text later, nor of what is written into another such graph.
func TestParsedIsNew(t *testing.T) {
	s := "graph 3 2\nedge 2 1 -7\nedge 1 0 5\n"
	want := api.Graph{N: 3, E: []api.Edge{{U: 0, V: 1, W: 5}, {U: 1, V: 2, W: -7}}}
	b := []byte(s)
	first, _ := text.Parse(b)
	second, _ := text.Parse(b)
	clear(b)
	isGraph(t, "its text written over", first, want)
	clear(first.E[:cap(first.E)])
	isGraph(t, "another one written over", second, want)
	isParsed(t, s, want)
}

// Rule 4: a text that was printed is new, spare room too.
func TestPrintedIsNew(t *testing.T) {
	g := edges(4, 0, 1, 0, 3, 1, 2)
	want := []byte(textOf(g))
	first, _ := text.Print(g)
	second, _ := text.Print(g)
	clear(first[:cap(first)])
	if !bytes.Equal(second, want) {
		t.Errorf("another text written over: %q", second)
	}
	isPrinted(t, g, string(want))
	clear(g.E)
	if !bytes.Equal(second, want) {
		t.Errorf("its graph written over: %q", second)
	}
}
