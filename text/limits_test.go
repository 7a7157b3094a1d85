package text_test

import (
	"bytes"
	"fmt"
	"slices"
	"strconv"
	"testing"

	"filigree/api"
	"filigree/text"
)

// bytesOf is the text of g, made without the program, into room for one byte more.
func bytesOf(g api.Graph) []byte {
	b := fmt.Appendf(make([]byte, 0, api.MaxText+1), "graph %d %d\n", g.N, len(g.E))
	for _, e := range g.E {
		b = append(b, "edge "...)
		b = strconv.AppendInt(b, int64(e.U), 10)
		b = append(b, ' ')
		b = strconv.AppendInt(b, int64(e.V), 10)
		b = append(b, ' ')
		b = strconv.AppendInt(b, e.W, 10)
		b = append(b, '\n')
	}
	return b
}

// isParsedBytes fails the test unless b is a text of want.
func isParsedBytes(t *testing.T, what string, b []byte, want api.Graph) {
	t.Helper()
	got, err := text.Parse(b)
	if err != nil {
		t.Errorf("%s: %v", what, err)
		return
	}
	isGraph(t, what, got, want)
}

// P502, P503, P504: as many edges as there may be, and one more.
func TestMostEdges(t *testing.T) {
	g := full(api.MaxM + 1)
	b := bytesOf(g)
	_, err := text.Parse(b)
	isWrapped(t, "Parse, MaxM + 1 edges", err, "line", 1, api.TooLarge)
	_, err = text.Print(g)
	isWrapped(t, "Print, MaxM + 1 edges", err, "graph", 0, api.TooLarge)

	g.E = g.E[:api.MaxM]
	b = bytesOf(g)
	isParsedBytes(t, "Parse, MaxM edges", b, g)
	if got, err := text.Print(g); err != nil || !bytes.Equal(got, b) {
		t.Errorf("Print, MaxM edges: %d bytes, %v", len(got), err)
	}
	_, err = text.Parse(append(b, "edge 0 1 1\n"...))
	isWrapped(t, "Parse, MaxM edges and a line", err, "line", api.MaxM+2, api.BadText)
	_, err = text.Parse(b[:len(b)-1])
	isWrapped(t, "Parse, MaxM edges, the last not ended", err, "line", api.MaxM+1, api.BadText)
}

// longest is a right graph whose canonical text has MaxText bytes: lines of 33 bytes, but the last ones a byte shorter each, so that it comes out even.
func longest() api.Graph {
	const head, line = len("graph 1048576 4067204\n"), len("edge 1000000 1000001 -2147483647\n")
	const m = (api.MaxText - head + line - 1) / line
	const shorter = m*line + head - api.MaxText
	g := api.Graph{N: api.MaxN, E: make([]api.Edge, 0, m)}
	for u := 1000000; len(g.E) < m; u++ {
		for v := u + 1; v < u+100 && len(g.E) < m; v++ {
			w := int64(1 - api.MaxW)
			if len(g.E) >= m-shorter {
				w = api.MaxW - 1
			}
			g.E = append(g.E, api.Edge{U: u, V: v, W: w})
		}
	}
	return g
}

// P502, P503, P504: a text of as many bytes as there may be, and of one more.
func TestLongestText(t *testing.T) {
	g := longest()
	b := bytesOf(g)
	if len(b) != api.MaxText {
		t.Fatalf("the longest text has %d bytes", len(b))
	}
	isParsedBytes(t, "Parse, MaxText bytes", b, g)
	if got, err := text.Print(g); err != nil || !bytes.Equal(got, b) {
		t.Errorf("Print, MaxText bytes: %d bytes, %v", len(got), err)
	}
	_, err := text.Parse(append(b, '\n'))
	isWrapped(t, "Parse, MaxText + 1 bytes", err, "text", 0, api.TooLarge)
}

// P502: texts of as many bytes as there may be that are one line, of blanks, of digits, or of line ends; one byte more is told ahead of all else.
func TestLongestLine(t *testing.T) {
	for _, c := range []byte{' ', '1', '\n'} {
		b := bytes.Repeat([]byte{c}, api.MaxText+1)
		copy(b, "graph ")
		_, err := text.Parse(b)
		isWrapped(t, "Parse, MaxText + 1 bytes", err, "text", 0, api.TooLarge)
		b = b[:api.MaxText]
		b[api.MaxText-1] = '\n'
		_, err = text.Parse(b)
		isWrapped(t, "Parse, MaxText bytes", err, "line", 1, api.BadText)
		copy(b, "graph 2 1\nedge 0 1 ")
		_, err = text.Parse(b)
		isWrapped(t, "Parse, MaxText bytes", err, "line", 2, api.BadText)
	}
}

// P503: a right graph has its canonical text even where that is longer than a text may be that is parsed.
func TestPrintBeyondLongest(t *testing.T) {
	g := longest()
	last := g.E[len(g.E)-1]
	g.E = append(slices.Clip(g.E), api.Edge{U: last.V, V: last.V + 1, W: 1})
	b := bytesOf(g)
	got, err := text.Print(g)
	if err != nil || !bytes.Equal(got, b) || len(got) <= api.MaxText {
		t.Errorf("Print beyond MaxText: %d bytes, %v", len(got), err)
	}
	_, err = text.Parse(got)
	isWrapped(t, "Parse of that", err, "text", 0, api.TooLarge)
}
