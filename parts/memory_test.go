package parts_test

import (
	"fmt"
	"slices"
	"testing"

	"filigree/api"
	"filigree/parts"
)

// Rule 4: what is handed in is not changed, its spare room neither.
func TestArgumentsStay(t *testing.T) {
	for _, c := range cases() {
		mark := api.Edge{U: 77, V: 78, W: 79}
		whole := append(slices.Clone(c.g.E), mark, mark, mark)
		want := slices.Clone(whole)
		g := api.Graph{N: c.g.N, E: whole[:len(c.g.E)]}
		parts.Components(g)
		parts.Cuts(g)
		parts.Bridges(g)
		parts.Blocks(g)
		parts.Two(g)
		if !slices.Equal(whole, want) {
			t.Errorf("%s: changed: %v", c.what, whole)
		}
	}
}

// spoil writes over a list and its spare room.
func spoil[T any](list []T, mark T) {
	list = list[:cap(list)]
	for i := range list {
		list[i] = mark
	}
}

// Rule 4: no two lists of one answer share memory, spare room too.
func TestListsShareNothing(t *testing.T) {
	for _, g := range samples() {
		for name, call := range map[string]func(api.Graph) [][]int{"Components": parts.Components, "Blocks": parts.Blocks} {
			want := call(g)
			for i := range want {
				got := call(g)
				spoil(got[i], -1)
				got[i] = want[i]
				isLists(t, name, g, got, want)
			}
		}
	}
}

// Rules 4 and 5: what the caller writes into an answer is not to be seen in the next one.
func TestAnswersAreNew(t *testing.T) {
	for _, c := range cases() {
		answers := func() ([][]int, [][]int, []int, []int, []bool, []int) {
			sides, way, _ := parts.Two(c.g)
			return parts.Components(c.g), parts.Blocks(c.g), parts.Cuts(c.g), parts.Bridges(c.g), sides, way
		}
		components, blocks, cuts, bridges, sides, way := answers()
		want := fmt.Sprint(components, blocks, cuts, bridges, sides, way)
		spoil(components, nil)
		spoil(blocks, nil)
		spoil(cuts, -1)
		spoil(bridges, -1)
		spoil(sides, true)
		spoil(way, -1)
		components, blocks, cuts, bridges, sides, way = answers()
		if got := fmt.Sprint(components, blocks, cuts, bridges, sides, way); got != want {
			t.Errorf("%s: told again: %s, not %s", c.what, got, want)
		}
	}
}
