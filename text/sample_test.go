package text_test

import (
	"fmt"
	"math"
	"slices"
	"strings"
	"testing"

	"filigree/api"
	"filigree/fault"
	"filigree/text"
)

// dice throws the same numbers in every run.
type dice uint64

func (d *dice) next() uint64 {
	*d ^= *d << 13
	*d ^= *d >> 7
	*d ^= *d << 17
	return uint64(*d)
}

func (d *dice) below(n int) int { return int(d.next() % uint64(n)) }

// weight prefers weights at the ends of their range.
func (d *dice) weight() int64 {
	ends := []int64{0, 1, -1, api.MaxW - 1, 1 - api.MaxW}
	if i := d.below(2 * len(ends)); i < len(ends) {
		return ends[i]
	}
	return int64(d.below(2001)) - 1000
}

// graph is a right graph of n vertices, made by its definition: each pair in order is an edge, or not.
func (d *dice) graph(n, chance int) api.Graph {
	g := api.Graph{N: n}
	for u := range n {
		for v := u + 1; v < n; v++ {
			if d.below(100) < chance {
				g.E = append(g.E, api.Edge{U: u, V: v, W: d.weight()})
			}
		}
	}
	return g
}

// mixed is g's edges in another order, some with their ends turned.
func (d *dice) mixed(g api.Graph) api.Graph {
	out := api.Graph{N: g.N, E: slices.Clone(g.E)}
	for i := range out.E {
		j := d.below(i + 1)
		out.E[i], out.E[j] = out.E[j], out.E[i]
	}
	for i, e := range out.E {
		if d.below(2) == 0 {
			out.E[i].U, out.E[i].V = e.V, e.U
		}
	}
	return out
}

// samples is right graphs: the least ones, sparse, middling and full ones.
func samples() []api.Graph {
	d := dice(20261117)
	list := []api.Graph{{}, {E: []api.Edge{}}, {N: 1}, {N: api.MaxN}}
	for n := range 14 {
		for _, chance := range []int{0, 20, 50, 100} {
			list = append(list, d.graph(n, chance))
		}
	}
	far := api.MaxN - 1
	return append(list, edges(api.MaxN, 0, far, 1, far, far-1, far))
}

// edges is the graph of n vertices and these ends, in pairs, just as they are told; weights are 1, 2 and so on.
func edges(n int, ends ...int) api.Graph {
	g := api.Graph{N: n}
	for i := 0; i < len(ends); i += 2 {
		g.E = append(g.E, api.Edge{U: ends[i], V: ends[i+1], W: int64(i/2 + 1)})
	}
	return g
}

// weighed is the graph of n vertices and one edge of this weight.
func weighed(n, u, v int, w int64) api.Graph {
	return api.Graph{N: n, E: []api.Edge{{U: u, V: v, W: w}}}
}

// full is a right graph of 4096 vertices and m edges, the first ones in order.
func full(m int) api.Graph {
	g := api.Graph{N: 4096, E: make([]api.Edge, 0, m)}
	for u := range g.N {
		for v := u + 1; v < g.N && len(g.E) < m; v++ {
			g.E = append(g.E, api.Edge{U: u, V: v, W: int64(len(g.E) % 10)})
		}
	}
	return g
}

// wrongs is graphs that are not right, in each of the ways there are, with their kinds.
func wrongs() map[string]struct {
	g    api.Graph
	kind api.Kind
} {
	return map[string]struct {
		g    api.Graph
		kind api.Kind
	}{
		"N below 0":              {api.Graph{N: -1}, api.BadArg},
		"least N":                {api.Graph{N: math.MinInt}, api.BadArg},
		"N below 0, a loop":      {edges(-1, 1, 1), api.BadArg},
		"N beyond":               {api.Graph{N: api.MaxN + 1}, api.TooLarge},
		"greatest N":             {api.Graph{N: math.MaxInt}, api.TooLarge},
		"a vertex below 0":       {edges(3, -1, 1), api.BadVertex},
		"a vertex beyond":        {edges(3, 0, 1, 1, 3), api.BadVertex},
		"the greatest vertex":    {edges(3, 0, math.MaxInt), api.BadVertex},
		"no vertex at all":       {edges(0, 0, 0), api.BadVertex},
		"a loop":                 {edges(3, 0, 1, 1, 1), api.Loop},
		"a loop, a bad vertex":   {edges(3, 1, 1, 1, 3), api.Loop},
		"weight beyond":          {weighed(3, 0, 1, api.MaxW), api.BadWeight},
		"weight below":           {weighed(3, 0, 1, -api.MaxW), api.BadWeight},
		"the least weight":       {weighed(3, 0, 1, math.MinInt64), api.BadWeight},
		"ends turned":            {edges(3, 1, 0), api.BadArg},
		"an edge twice":          {edges(3, 0, 1, 0, 1), api.Twice},
		"an edge twice, turned":  {edges(3, 0, 1, 1, 0), api.BadArg},
		"edges fall by U":        {edges(3, 1, 2, 0, 1), api.BadArg},
		"edges fall by V":        {edges(3, 0, 2, 0, 1), api.BadArg},
		"last of many":           {edges(4, 0, 1, 0, 2, 1, 2, 2, 3, 1, 3), api.BadArg},
		"twice, then one beyond": {edges(3, 0, 1, 0, 1, 1, 3), api.Twice},
	}
}

// textOf is a text of g with its edges as they stand, told by the chapter's words alone.
func textOf(g api.Graph) string {
	var b strings.Builder
	fmt.Fprintf(&b, "graph %d %d\n", g.N, len(g.E))
	for _, e := range g.E {
		fmt.Fprintf(&b, "edge %d %d %d\n", e.U, e.V, e.W)
	}
	return b.String()
}

// isGraph fails the test unless got has just want's vertices and edges, in its order.
func isGraph(t *testing.T, what string, got, want api.Graph) {
	t.Helper()
	if got.N != want.N || !slices.Equal(got.E, want.E) {
		t.Errorf("%s: %d vertices, %d edges %v, not %d vertices, %d edges %v",
			what, got.N, len(got.E), head(got), want.N, len(want.E), head(want))
	}
}

// head is the first edges of g, so that a failure stays readable.
func head(g api.Graph) []api.Edge { return g.E[:min(len(g.E), 20)] }

// short is s, or its beginning, so that a failure stays readable.
func short(s string) string { return s[:min(len(s), 200)] }

// isWrapped fails the test unless err is one *Fault of this place, around this kind itself.
func isWrapped(t *testing.T, what string, err error, where string, at int, kind api.Kind) {
	t.Helper()
	f, ok := err.(*fault.Fault)
	if !ok || f == nil {
		t.Errorf("%s: %v, no *Fault of %s %d, kind %d", what, err, where, at, int(kind))
		return
	}
	if f.Where != where || f.At != at || f.Err != kind {
		t.Errorf("%s: %v, not %s %d, kind %d", what, err, where, at, int(kind))
	}
}

// isParsed fails the test unless s is a text of want.
func isParsed(t *testing.T, s string, want api.Graph) {
	t.Helper()
	got, err := text.Parse([]byte(s))
	if err != nil {
		t.Errorf("Parse(%q): %v", short(s), err)
		return
	}
	isGraph(t, fmt.Sprintf("Parse(%q)", short(s)), got, want)
}

// isRefused fails the test unless s is refused with this place and kind, and the zero graph beside it.
func isRefused(t *testing.T, s, where string, at int, kind api.Kind) {
	t.Helper()
	got, err := text.Parse([]byte(s))
	what := fmt.Sprintf("Parse(%q)", short(s))
	isWrapped(t, what, err, where, at, kind)
	if got.N != 0 || got.E != nil {
		t.Errorf("%s: %d vertices, %d edges beside an error", what, got.N, len(got.E))
	}
}

// isWrongAt fails the test unless s is refused for this line.
func isWrongAt(t *testing.T, s string, line int, kind api.Kind) {
	t.Helper()
	isRefused(t, s, "line", line, kind)
}
