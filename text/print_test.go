package text_test

import (
	"testing"

	"filigree/api"
	"filigree/text"
)

// isPrinted fails the test unless want is the text of g.
func isPrinted(t *testing.T, g api.Graph, want string) {
	t.Helper()
	got, err := text.Print(g)
	if err != nil || string(got) != want {
		t.Errorf("Print: %q, %v, not %q", short(string(got)), err, short(want))
	}
}

// P503: the canonical text, of small graphs word by word.
func TestPrint(t *testing.T) {
	isPrinted(t, api.Graph{}, "graph 0 0\n")
	isPrinted(t, api.Graph{E: []api.Edge{}}, "graph 0 0\n")
	isPrinted(t, api.Graph{N: 1}, "graph 1 0\n")
	isPrinted(t, api.Graph{N: api.MaxN}, "graph 1048576 0\n")
	isPrinted(t, weighed(2, 0, 1, 5), "graph 2 1\nedge 0 1 5\n")
	isPrinted(t, weighed(2, 0, 1, 0), "graph 2 1\nedge 0 1 0\n")
	isPrinted(t, weighed(2, 0, 1, api.MaxW-1), "graph 2 1\nedge 0 1 2147483647\n")
	isPrinted(t, weighed(2, 0, 1, 1-api.MaxW), "graph 2 1\nedge 0 1 -2147483647\n")
	isPrinted(t, edges(12, 0, 11, 2, 3, 2, 10), "graph 12 3\nedge 0 11 1\nedge 2 3 2\nedge 2 10 3\n")
	isPrinted(t, edges(api.MaxN, 0, 1, api.MaxN-2, api.MaxN-1), "graph 1048576 2\nedge 0 1 1\nedge 1048574 1048575 2\n")
	for _, g := range samples() {
		isPrinted(t, g, textOf(g))
	}
}

// P503: graphs that are not right, in each of the ways that graph's Right names.
func TestPrintNotRight(t *testing.T) {
	for what, wrong := range wrongs() {
		got, err := text.Print(wrong.g)
		isWrapped(t, what, err, "graph", 0, wrong.kind)
		if len(got) != 0 {
			t.Errorf("%s: %q beside an error", what, short(string(got)))
		}
	}
}
