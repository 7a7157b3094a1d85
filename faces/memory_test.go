package faces_test

import (
	"fmt"
	"slices"
	"testing"

	"filigree/api"
	"filigree/faces"
)

// roomy is a copy of lists, each with spare room in which marks stand, and the whole of it.
func roomy(r [][]int) (lists, whole [][]int) {
	for _, list := range r {
		long := append(slices.Clone(list), -77, -78)
		lists = append(lists, long[:len(list)])
		whole = append(whole, long)
	}
	spare := []int{-79}
	lists = append(lists, spare)
	return lists[:len(r)], append(whole, spare)
}

// flat is a copy of lists that lie in one memory, so that each one's spare room is the next one.
func flat(r [][]int) [][]int {
	whole := slices.Concat(r...)
	lists := make([][]int, len(r))
	for v, list := range r {
		lists[v] = whole[:len(list)]
		whole = whole[len(list):]
	}
	return lists
}

// askAll asks all that the package tells.
func askAll(g api.Graph, r [][]int) {
	faces.Sides(g, r)
	faces.Lengths(g, r)
	faces.Dual(g, r)
	faces.Joined(g, r)
}

// Rule 4: what is handed in is not changed, its spare room neither; what is refused neither.
func TestArgumentsStay(t *testing.T) {
	samples := inPlane()
	samples = append(samples, sample{"bagel", of(bagel(3, 4)), bagel(3, 4)}, sample{"no system", of(ring(3)), ring(4)})
	for _, s := range samples {
		r, whole := roomy(s.r)
		mark := api.Edge{U: 77, V: 78, W: 79}
		marked := append(slices.Clone(s.g.E), mark, mark)
		g := api.Graph{N: s.g.N, E: marked[:len(s.g.E)]}
		want := fmt.Sprint(r[:len(r)+1], whole, marked)
		askAll(g, r)
		if got := fmt.Sprint(r[:len(r)+1], whole, marked); got != want {
			t.Fatalf("%s: changed: %s, not %s", s.what, got, want)
		}
		lists := flat(s.r)
		askAll(g, lists)
		if !slices.EqualFunc(lists, s.r, slices.Equal) {
			t.Fatalf("%s: lists in one memory changed: %v, not %v", s.what, lists, s.r)
		}
	}
}

// spoil writes over a list and its spare room.
func spoil[T any](list []T, mark T) {
	list = list[:cap(list)]
	for i := range list {
		list[i] = mark
	}
}

// answers is the text of all that the package tells.
func answers(s sample) string {
	sides, _ := faces.Sides(s.g, s.r)
	lengths, _ := faces.Lengths(s.g, s.r)
	dual, _ := faces.Dual(s.g, s.r)
	joined, lists, _ := faces.Joined(s.g, s.r)
	return fmt.Sprint(sides, lengths, dual, joined, lists)
}

// Rules 4 and 5: what is handed out is new memory; told again it is the same.
func TestAnswersAreNew(t *testing.T) {
	for _, s := range inPlane() {
		before, want := fmt.Sprint(s), answers(s)
		sides, _ := faces.Sides(s.g, s.r)
		spoil(sides, [2]int{-1, -1})
		lengths, _ := faces.Lengths(s.g, s.r)
		spoil(lengths, -1)
		dual, _ := faces.Dual(s.g, s.r)
		spoil(dual.E, api.Edge{U: -1, V: -1, W: -1})
		joined, lists, _ := faces.Joined(s.g, s.r)
		spoil(joined.E, api.Edge{U: -1, V: -1, W: -1})
		for _, list := range lists {
			spoil(list, -1)
		}
		spoil(lists, nil)
		if fmt.Sprint(s) != before {
			t.Fatalf("%s: changed: %v, not %s", s.what, s, before)
		}
		if again := answers(s); again != want {
			t.Fatalf("%s: told again: %s, not %s", s.what, again, want)
		}
	}
}

// Rule 4: no two lists of what is joined share memory.
func TestListsAreApart(t *testing.T) {
	for _, s := range inPlane() {
		_, want, _ := faces.Joined(s.g, s.r)
		for v := range want {
			_, got, _ := faces.Joined(s.g, s.r)
			spoil(got[v], -1)
			got[v] = want[v]
			if !slices.EqualFunc(got, want, slices.Equal) {
				t.Fatalf("%s: lists share memory: %v, not %v", s.what, got, want)
			}
		}
	}
}
