package text

import (
	"strings"

	"filigree/api"
	"filigree/fault"
	"filigree/graph"
)

// reader takes the lines of a text, one by one. Each of its methods panics with the kind of what is wrong in the line that it takes, so that none has to hand that on; read recovers it.
type reader struct {
	rest  string
	taken int // lines, so it is the number of the one that was taken last
}

// read answers the number of vertices and the edges that all lines of a text tell, or what is wrong in the first line that is wrong.
func read(text string) (n int, edges []api.Edge, err error) {
	lines := &reader{rest: text}
	defer func() {
		if wrong := recover(); wrong != nil {
			n, edges, err = 0, nil, fault.Wrap("line", lines.taken, kindOf(wrong))
		}
	}()
	n, m := lines.head()
	// The first line may promise more edges than there are lines for.
	edges = make([]api.Edge, 0, min(m, len(lines.rest)/len("edge 0 1 0\n")))
	for range m {
		edges = append(edges, lines.edge(n))
	}
	lines.end()
	return n, edges, nil
}

// kindOf answers the kind that a method of reader panicked with. Any other panic is no fault of a text, and goes on.
func kindOf(wrong any) api.Kind {
	kind, ok := wrong.(api.Kind)
	if !ok {
		panic(wrong)
	}
	return kind
}

// head takes the first line: how many vertices, and how many edges.
func (r *reader) head() (n, m int) {
	told := r.numbers("graph", 2)
	switch {
	case told[0] < 0 || told[1] < 0:
		panic(api.BadArg)
	case told[0] > api.MaxN || told[1] > api.MaxM:
		panic(api.TooLarge)
	}
	return int(told[0]), int(told[1])
}

// edge takes an edge's line, in the text of a graph of n vertices.
func (r *reader) edge(n int) api.Edge {
	told := r.numbers("edge", 3)
	e := api.Edge{U: int(told[0]), V: int(told[1]), W: told[2]}
	// A graph of this edge alone tells what is wrong with it.
	if _, kind := graph.Make(n, []api.Edge{e}); kind != api.OK {
		panic(kind)
	}
	return e
}

// end takes no line: there must be none.
func (r *reader) end() {
	if r.rest != "" {
		r.taken++
		panic(api.BadText)
	}
}

// numbers takes a line of this word and so many numbers.
func (r *reader) numbers(word string, count int) []int64 {
	// All that stands behind as many blanks as there may be is one field, and no number if there are more: a line of blanks alone makes no long list.
	fields := strings.SplitN(r.line(), " ", count+1)
	if len(fields) != count+1 || fields[0] != word {
		panic(api.BadText)
	}
	told := make([]int64, count)
	for i, field := range fields[1:] {
		n, kind := Number(field)
		if kind != api.OK {
			panic(api.BadText)
		}
		told[i] = n
	}
	return told
}

// line takes a line, without its end.
func (r *reader) line() string {
	r.taken++
	line, rest, ended := strings.Cut(r.rest, "\n")
	if !ended {
		panic(api.BadText)
	}
	r.rest = rest
	return line
}
