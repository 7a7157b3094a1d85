package graph_test

import (
	"slices"
	"testing"

	"filigree/api"
	"filigree/graph"
)

// roomy is a list with spare room behind it, filled with a mark.
func roomy[T any](list []T, mark T) (short, whole []T) {
	whole = append(slices.Clone(list), mark, mark, mark)
	return whole[:len(list)], whole
}

// Rule 4: what is handed in is not changed, its spare room neither.
func TestArgumentsStay(t *testing.T) {
	g := edges(5, 0, 1, 0, 4, 1, 2, 1, 3, 2, 3, 3, 4)
	turned := edges(5, 4, 3, 3, 2, 1, 3, 2, 1, 0, 4, 1, 0)
	mark := api.Edge{U: 77, V: 78, W: 79}
	in, whole := roomy(g.E, mark)
	unsorted, wholeUnsorted := roomy(turned.E, mark)
	places, wholePlaces := roomy([]int{4, 1, 3}, 99)
	keep, wholeKeep := roomy([]bool{true, false, true, true}, true)
	h := api.Graph{N: g.N, E: in}

	graph.Right(h)
	graph.Make(h.N, unsorted)
	graph.Make(h.N, in)
	graph.Find(h, 3, 1)
	graph.Near(h)
	graph.Degrees(h)
	graph.Only(h, keep)
	graph.Less(h, places)
	graph.Same(h, h)
	graph.Weight(h, places)

	if !slices.Equal(whole, append(slices.Clone(g.E), mark, mark, mark)) {
		t.Errorf("a graph's edges are changed: %v", whole)
	}
	if !slices.Equal(wholeUnsorted, append(slices.Clone(turned.E), mark, mark, mark)) {
		t.Errorf("Make's list is changed: %v", wholeUnsorted)
	}
	if !slices.Equal(wholePlaces, []int{4, 1, 3, 99, 99, 99}) {
		t.Errorf("places are changed: %v", wholePlaces)
	}
	if !slices.Equal(wholeKeep, []bool{true, false, true, true, true, true, true}) {
		t.Errorf("kept ones are changed: %v", wholeKeep)
	}
}

// Rule 4: graphs that are handed out share nothing with one that was handed in, nor with one another.
func TestGraphsAreNew(t *testing.T) {
	g := edges(5, 0, 1, 0, 4, 1, 2, 1, 3, 2, 3, 3, 4)
	whole := slices.Clone(g.E)
	answers := func() []api.Graph {
		again, _ := graph.Make(g.N, g.E)
		return []api.Graph{again, graph.Only(g, slices.Repeat([]bool{true}, 5)), graph.Less(g, nil), graph.Less(g, []int{5}), graph.Less(g, []int{0})}
	}
	first, second := answers(), answers()
	for _, a := range first {
		spoil(a.E, api.Edge{U: -1, V: -1, W: -1})
	}
	if !slices.Equal(g.E, whole) {
		t.Errorf("what was handed in is changed: %v", g.E)
	}
	third := answers()
	for i := range second {
		isGraph(t, "told again", third[i], second[i])
	}
}

// spoil writes over a list and its spare room.
func spoil[T any](list []T, mark T) {
	list = list[:cap(list)]
	for i := range list {
		list[i] = mark
	}
}

// Rule 4: no two lists of Near share memory, spare room too, and Degrees is new.
func TestNearIsNew(t *testing.T) {
	g := edges(6, 0, 2, 0, 4, 1, 2, 2, 3, 2, 4)
	want := graph.Near(g)
	for v := range g.N {
		got := graph.Near(g)
		spoil(got[v], -1)
		for u := range g.N {
			if u != v && !slices.Equal(got[u], want[u]) {
				t.Errorf("writing at %d changes %d: %v", v, u, got[u])
			}
		}
	}
	got := graph.Near(g)
	spoil(got, nil)
	degrees := graph.Degrees(g)
	spoil(degrees, -1)
	if again := graph.Near(g); !slices.EqualFunc(again, want, slices.Equal) {
		t.Errorf("Near told again: %v", again)
	}
	if again := graph.Degrees(g); !slices.Equal(again, []int{2, 1, 4, 1, 2, 0}) {
		t.Errorf("Degrees told again: %v", again)
	}
}
