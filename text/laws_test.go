package text_test

import (
	"testing"

	"filigree/api"
	"filigree/text"
)

// printed is the text of g, which must be right.
func printed(t *testing.T, g api.Graph) string {
	t.Helper()
	b, err := text.Print(g)
	if err != nil {
		t.Fatalf("Print: %v", err)
	}
	return string(b)
}

// P504: what is printed is parsed as the graph that it was.
func TestParseOfPrint(t *testing.T) {
	for _, g := range samples() {
		isParsed(t, printed(t, g), g)
	}
}

// P504: whichever text of it is parsed, a graph is the same, and so is its canonical text.
func TestPrintOfParse(t *testing.T) {
	d := dice(504)
	for _, g := range samples() {
		canonical := printed(t, g)
		for range 3 {
			s := textOf(d.mixed(g))
			first, err := text.Parse([]byte(s))
			if err != nil {
				t.Fatalf("Parse(%q): %v", short(s), err)
			}
			isPrinted(t, first, canonical)
			isParsed(t, printed(t, first), first)
		}
	}
}
