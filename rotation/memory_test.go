package rotation_test

import (
	"fmt"
	"slices"
	"testing"

	"filigree/api"
	"filigree/rotation"
)

// roomy is a copy of lists, each with spare room in which marks stand, and the whole of it.
func roomy(r [][]int) (lists, whole [][]int) {
	for _, list := range r {
		long := append(slices.Clone(list), -77, -78)
		lists = append(lists, long[:len(list)])
		whole = append(whole, long)
	}
	spare := []int{-79}
	lists = append(lists, spare)
	return lists[:len(r)], append(whole, spare)
}

// Rule 4: what is handed in is not changed, its spare room neither.
func TestArgumentsStay(t *testing.T) {
	for _, s := range samples() {
		r, whole := roomy(s.r)
		mark := api.Edge{U: 77, V: 78, W: 79}
		marked := append(slices.Clone(s.g.E), mark, mark)
		g := api.Graph{N: s.g.N, E: marked[:len(s.g.E)]}
		want := fmt.Sprint(r[:len(r)+1], whole, marked)
		rotation.Right(g, r)
		rotation.Next(r, api.Dart{U: 0, V: 1})
		rotation.Faces(g, r)
		rotation.Euler(g, r)
		rotation.Plane(g, r)
		rotation.Canon(g, r)
		rotation.Mirror(r)
		if got := fmt.Sprint(r[:len(r)+1], whole, marked); got != want {
			t.Fatalf("changed: %s, not %s", got, want)
		}
	}
}

// spoil writes over a list and its spare room.
func spoil[T any](list []T, mark T) {
	list = list[:cap(list)]
	for i := range list {
		list[i] = mark
	}
}

// sharesNothing fails the test, if what is written into one list of an answer is seen in another one or in what came in.
func sharesNothing[T comparable](t *testing.T, what string, mark T, s sample, answer func() [][]T) {
	t.Helper()
	before := fmt.Sprint(s)
	want := answer()
	for i := range want {
		got := answer()
		spoil(got[i], mark)
		got[i] = want[i]
		if !slices.EqualFunc(got, want, slices.Equal) {
			t.Fatalf("%s of %v: lists share memory: %v, not %v", what, s, got, want)
		}
	}
	spoil(answer(), nil)
	if again := answer(); fmt.Sprint(s) != before || !slices.EqualFunc(again, want, slices.Equal) {
		t.Fatalf("%s of %v: told again: %v, not %v", what, s, again, want)
	}
}

// Rules 4 and 5: what is handed out is new memory, and so is each list in it.
func TestAnswersAreNew(t *testing.T) {
	for _, s := range samples() {
		sharesNothing(t, "Faces", api.Dart{U: -1, V: -1}, s, func() [][]api.Dart {
			faces, _ := rotation.Faces(s.g, s.r)
			return faces
		})
		sharesNothing(t, "Canon", -1, s, func() [][]int {
			canon, _ := rotation.Canon(s.g, s.r)
			return canon
		})
		sharesNothing(t, "Mirror", -1, s, func() [][]int { return rotation.Mirror(s.r) })
		sharesNothing(t, "Euler", -1, s, func() [][]int {
			numbers, _ := rotation.Euler(s.g, s.r)
			return [][]int{numbers}
		})
	}
}

// Rule 4: a system that begins with its least neighbours already is copied too, and so are lists of one neighbour.
func TestCanonCopies(t *testing.T) {
	r := [][]int{{1, 2, 3}, {0}, {0}, {0}}
	canon, _ := rotation.Canon(of(r), r)
	mirror := rotation.Mirror(r)
	for v := range r {
		spoil(canon[v], -1)
		spoil(mirror[v], -1)
	}
	isText(t, "the system", r, "[[1 2 3] [0] [0] [0]]")
}
