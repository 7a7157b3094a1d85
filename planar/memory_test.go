package planar_test

import (
	"fmt"
	"slices"
	"testing"

	"filigree/api"
	"filigree/planar"
)

// someKinds is graphs in the plane and such as are not.
func someKinds() []kind {
	return slices.Concat(inPlane()[:150], notInPlane()[:150])
}

// Rule 4: what is handed in is not changed, its spare room neither.
func TestArgumentsStay(t *testing.T) {
	for _, c := range someKinds() {
		mark := api.Edge{U: 77, V: 78, W: 79}
		marked := append(slices.Clone(c.g.E), mark, mark)
		g := api.Graph{N: c.g.N, E: marked[:len(c.g.E)]}
		a, _ := planar.Decide(g)
		var lists [][]int
		for _, list := range a.R {
			lists = append(lists, append(slices.Clone(list), -77, -78))
		}
		r := make([][]int, len(lists), len(lists)+1)
		for v, list := range lists {
			r[v] = list[:len(list)-2]
		}
		in := append(slices.Clone(a.In), -77, -78)
		want := fmt.Sprint(marked, lists, in, r[:cap(r)])
		for _, told := range []bool{true, false} {
			planar.Holds(g, planar.Answer{Planar: told, R: r})
			planar.Holds(g, planar.Answer{Planar: told, In: in[:len(a.In)]})
		}
		planar.Decide(g)
		if got := fmt.Sprint(marked, lists, in, r[:cap(r)]); got != want {
			t.Fatalf("%s: changed: %s, not %s", c.what, got, want)
		}
	}
}

// spoil writes over a list and its spare room.
func spoil[T any](list []T, mark T) {
	list = list[:cap(list)]
	for i := range list {
		list[i] = mark
	}
}

// Rules 4 and 5: what is handed out is new memory, and so is each list in it.
func TestAnswersAreNew(t *testing.T) {
	for _, c := range someKinds() {
		before := fmt.Sprint(c.g)
		want, _ := planar.Decide(c.g)
		text := fmt.Sprint(want)
		for v := range want.R {
			got, _ := planar.Decide(c.g)
			spoil(got.R[v], -1)
			got.R[v] = want.R[v]
			if fmt.Sprint(got) != text {
				t.Fatalf("%s: lists share memory: %v, not %s", c.what, got, text)
			}
		}
		once, _ := planar.Decide(c.g)
		spoil(once.R, nil)
		spoil(once.In, -1)
		if again, _ := planar.Decide(c.g); fmt.Sprint(c.g) != before || fmt.Sprint(again) != text {
			t.Fatalf("%s: told again: %v, not %s", c.what, again, text)
		}
	}
}
