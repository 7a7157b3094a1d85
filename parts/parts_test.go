package parts_test

import (
	"fmt"
	"slices"
	"testing"

	"filigree/api"
	"filigree/parts"
)

// Examples of the chapter and of the issue, with their answers written out.
type told struct {
	what       string
	g          api.Graph
	components string
	cuts       string
	bridges    string
	blocks     string
	two        string // the colours of the vertices, or how many vertices the odd closed way has
}

func cases() []told {
	return []told{
		{"no vertex", api.Graph{}, "[]", "[]", "[]", "[]", ""},
		{"no edge, empty list", api.Graph{N: 1, E: []api.Edge{}}, "[[0]]", "[]", "[]", "[]", "0"},
		{"vertices and no edge", api.Graph{N: 3}, "[[0] [1] [2]]", "[]", "[]", "[]", "000"},
		{"one edge alone", edges(2, 0, 1), "[[0 1]]", "[]", "[0]", "[[0]]", "01"},
		{"one edge beside others", edges(4, 1, 3), "[[0] [1 3] [2]]", "[]", "[0]", "[[0]]", "0001"},
		{"two edges", edges(4, 0, 3, 1, 2), "[[0 3] [1 2]]", "[]", "[0 1]", "[[0] [1]]", "0011"},
		{"a way", sorted(4, along(0, 1, 2, 3)...), "[[0 1 2 3]]", "[1 2]", "[0 1 2]", "[[0] [1] [2]]", "0101"},
		{"a way, mixed", sorted(4, along(2, 0, 3, 1)...), "[[0 1 2 3]]", "[0 3]", "[0 1 2]", "[[0] [1] [2]]", "0011"},
		{"the least a cut", sorted(4, 0, 1, 0, 2, 0, 3), "[[0 1 2 3]]", "[0]", "[0 1 2]", "[[0] [1] [2]]", "0111"},
		{"the greatest a cut", sorted(4, 0, 3, 1, 3, 2, 3), "[[0 1 2 3]]", "[3]", "[0 1 2]", "[[0] [1] [2]]", "0001"},
		{"a triangle", sorted(3, round(0, 1, 2)...), "[[0 1 2]]", "[]", "[]", "[[0 1 2]]", "3"},
		{"a closed way of 4", sorted(4, round(0, 2, 1, 3)...), "[[0 1 2 3]]", "[]", "[]", "[[0 1 2 3]]", "0011"},
		{"a closed way of 5", sorted(5, round(0, 2, 4, 1, 3)...), "[[0 1 2 3 4]]", "[]", "[]", "[[0 1 2 3 4]]", "5"},
		{"a closed way of 6", sorted(6, round(0, 1, 2, 3, 4, 5)...), "[[0 1 2 3 4 5]]", "[]", "[]", "[[0 1 2 3 4 5]]", "010101"},
		{"a full graph", sorted(4, among(0, 1, 2, 3)...), "[[0 1 2 3]]", "[]", "[]", "[[0 1 2 3 4 5]]", "3"},
		{"the chapter's example", sorted(5, both(round(0, 1, 2), round(2, 3, 4))...), "[[0 1 2 3 4]]", "[2]", "[]", "[[0 1 2] [3 4 5]]", "3"},
		{"in common the least", sorted(5, both(round(0, 1, 3), round(0, 2, 4))...), "[[0 1 2 3 4]]", "[0]", "[]", "[[0 2 4] [1 3 5]]", "3"},
		{"in common the greatest", sorted(5, both(round(0, 3, 4), round(1, 2, 4))...), "[[0 1 2 3 4]]", "[4]", "[]", "[[0 1 5] [2 3 4]]", "3"},
		{"an edge between", sorted(6, both(round(0, 1, 2), append(round(3, 4, 5), 2, 3))...), "[[0 1 2 3 4 5]]", "[2 3]", "[3]", "[[0 1 2] [3] [4 5 6]]", "3"},
		{"even ones, an edge between", sorted(8, both(round(0, 2, 4, 6), append(round(1, 3, 5, 7), 6, 7))...), "[[0 1 2 3 4 5 6 7]]", "[6 7]", "[8]", "[[0 1 4 6] [2 3 5 7] [8]]", "01100110"},
		{"a bridge at the end", sorted(4, both(round(0, 1, 2), along(2, 3))...), "[[0 1 2 3]]", "[2]", "[3]", "[[0 1 2] [3]]", "3"},
		{"a bridge at the beginning", sorted(4, both(along(0, 1), round(1, 2, 3))...), "[[0 1 2 3]]", "[1]", "[0]", "[[0] [1 2 3]]", "3"},
		{"bridges at both ends", sorted(6, slices.Concat(along(0, 1), round(1, 2, 3, 4), along(3, 5))...), "[[0 1 2 3 4 5]]", "[1 3]", "[0 5]", "[[0] [1 2 3 4] [5]]", "010100"},
		{"a tree", sorted(7, 3, 0, 3, 1, 3, 6, 6, 2, 6, 4, 4, 5), "[[0 1 2 3 4 5 6]]", "[3 4 6]", "[0 1 2 3 4 5]", "[[0] [1] [2] [3] [4] [5]]", "0011100"},
		{"a chord", sorted(4, append(round(0, 1, 2, 3), 0, 2)...), "[[0 1 2 3]]", "[]", "[]", "[[0 1 2 3 4]]", "3"},
		{"K3,3", sorted(6, 0, 3, 0, 4, 0, 5, 1, 3, 1, 4, 1, 5, 2, 3, 2, 4, 2, 5), "[[0 1 2 3 4 5]]", "[]", "[]", "[[0 1 2 3 4 5 6 7 8]]", "000111"},
		{"an odd one beside even ones", sorted(10, slices.Concat(along(0, 1), round(2, 4, 6), round(3, 5, 7, 9))...), "[[0 1] [2 4 6] [3 5 7 9] [8]]", "[]", "[0]", "[[0] [1 2 5] [3 4 6 7]]", "3"},
		{"an odd one ahead of even ones", sorted(7, both(round(0, 1, 2), round(3, 4, 5, 6))...), "[[0 1 2] [3 4 5 6]]", "[]", "[]", "[[0 1 2] [3 4 5 6]]", "3"},
	}
}

// P601, P602, P603: what is written out.
func TestTold(t *testing.T) {
	for _, c := range cases() {
		for name, pair := range map[string][2]string{
			"Components": {fmt.Sprint(parts.Components(c.g)), c.components},
			"Cuts":       {fmt.Sprint(parts.Cuts(c.g)), c.cuts},
			"Bridges":    {fmt.Sprint(parts.Bridges(c.g)), c.bridges},
			"Blocks":     {fmt.Sprint(parts.Blocks(c.g)), c.blocks},
		} {
			if pair[0] != pair[1] {
				t.Errorf("%s: %s: %s, not %s", c.what, name, pair[0], pair[1])
			}
		}
	}
}

// P604: colours, or an odd closed way; never both.
func TestTwoTold(t *testing.T) {
	for _, c := range cases() {
		sides, way, k := parts.Two(c.g)
		got := digits(sides)
		if k == api.NoMatching {
			got = fmt.Sprint(len(way))
			if !isOdd(c.g, way) {
				t.Errorf("%s: no odd closed way: %v", c.what, way)
			}
		}
		if got != c.two || k != api.OK && (k != api.NoMatching || len(sides) > 0) || k == api.OK && len(way) > 0 {
			t.Errorf("%s: Two: %v, %v, kind %d, not %s", c.what, sides, way, int(k), c.two)
		}
	}
}

// digits is 0 for each false, 1 for each true.
func digits(sides []bool) string {
	b := make([]byte, len(sides))
	for v, side := range sides {
		b[v] = '0'
		if side {
			b[v] = '1'
		}
	}
	return string(b)
}

// P601 to P604: of graphs that are not right nothing, and BadArg.
func TestWrong(t *testing.T) {
	for what, g := range wrongs() {
		sides, way, k := parts.Two(g)
		if len(sides)+len(way) > 0 || k != api.BadArg {
			t.Errorf("%s: Two: %d colours, %d of a way, kind %d", what, len(sides), len(way), int(k))
		}
		if n := len(parts.Components(g)); n > 0 {
			t.Errorf("%s: %d components", what, n)
		}
		if n := len(parts.Cuts(g)); n > 0 {
			t.Errorf("%s: %d cut vertices", what, n)
		}
		if n := len(parts.Bridges(g)); n > 0 {
			t.Errorf("%s: %d bridges", what, n)
		}
		if n := len(parts.Blocks(g)); n > 0 {
			t.Errorf("%s: %d blocks", what, n)
		}
	}
}
