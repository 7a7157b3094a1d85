package kuratowski_test

import (
	"fmt"
	"slices"
	"testing"

	"filigree/api"
	"filigree/kuratowski"
)

// Rule 4: what is handed in is not changed, its spare room neither.
func TestArgumentsStay(t *testing.T) {
	for _, s := range all() {
		mark := api.Edge{U: 77, V: 78, W: 79}
		marked := append(slices.Clone(s.g.E), mark, mark)
		named := append(slices.Clone(s.in), -77, -78)
		g, in := api.Graph{N: s.g.N, E: marked[:len(s.g.E)]}, named[:len(s.in)]
		want := fmt.Sprint(marked, named)
		kuratowski.Ways(g, in)
		kuratowski.Class(g, in)
		kuratowski.Check(g, in)
		if got := fmt.Sprint(marked, named); got != want {
			t.Fatalf("changed: %s, not %s", got, want)
		}
	}
}

// spoil writes over a list and its spare room.
func spoil[T any](list []T, mark T) {
	list = list[:cap(list)]
	for i := range list {
		list[i] = mark
	}
}

// Rules 4 and 5: what is handed out is new memory, and so is each way in it.
func TestAnswersAreNew(t *testing.T) {
	for _, s := range all() {
		before := fmt.Sprint(s)
		want, _ := kuratowski.Ways(s.g, s.in)
		for i := range want {
			got, _ := kuratowski.Ways(s.g, s.in)
			spoil(got[i], -1)
			got[i] = want[i]
			if !slices.EqualFunc(got, want, slices.Equal) {
				t.Fatalf("Ways of %v: ways share memory: %v, not %v", s, got, want)
			}
		}
		once, _ := kuratowski.Ways(s.g, s.in)
		spoil(once, nil)
		again, _ := kuratowski.Ways(s.g, s.in)
		if fmt.Sprint(s) != before || !slices.EqualFunc(again, want, slices.Equal) {
			t.Fatalf("Ways of %v: told again: %v, not %v", s, again, want)
		}
	}
}
