package paths_test

import (
	"fmt"
	"slices"
	"testing"

	"filigree/api"
	"filigree/paths"
)

// Rule 4: what is handed in is not changed, its spare room neither; what is refused neither.
func TestArgumentsStay(t *testing.T) {
	list := samples()
	for what, c := range wrongs() {
		list = append(list, sample{what, c.m})
	}
	for _, s := range list {
		mark := api.Edge{U: 77, V: 78, W: 79}
		edges := append(slices.Clone(s.m.E), mark, mark)
		m := api.Graph{N: s.m.N, E: edges[:len(s.m.E)]}
		dist, via, k := paths.From(m, 0)
		if k != api.OK {
			dist, via = []int64{0, 1}, []int{-1, 0}
		}
		longDist, longVia := append(slices.Clone(dist), -77, -78), append(slices.Clone(via), -79, -80)
		dist, via = longDist[:len(dist)], longVia[:len(via)]
		want := fmt.Sprint(edges, longDist, longVia)
		for v := -1; v <= len(dist); v++ {
			paths.Right(m)
			paths.From(m, v)
			paths.Check(m, v, dist, via)
			paths.Way(m, via, v)
		}
		if got := fmt.Sprint(edges, longDist, longVia); got != want {
			t.Fatalf("%s: changed: %s, not %s", s.what, got, want)
		}
	}
}

// spoil writes over a list and its spare room.
func spoil[T any](list []T, mark T) {
	list = list[:cap(list)]
	for i := range list {
		list[i] = mark
	}
}

// Rules 4 and 5: what is handed out is new memory; told again it is the same.
func TestAnswersAreNew(t *testing.T) {
	for _, s := range samples() {
		before := fmt.Sprint(s)
		for v := range s.m.N {
			dist, via, _ := paths.From(s.m, v)
			want := fmt.Sprint(dist, via)
			last := paths.Way(s.m, via, s.m.N-1)
			told := fmt.Sprint(last)
			spoil(last, -9)
			if got := fmt.Sprint(dist, via); got != want {
				t.Fatalf("%s: Way shares via: %s, not %s", s.what, got, want)
			}
			if got := fmt.Sprint(paths.Way(s.m, via, s.m.N-1)); got != told {
				t.Fatalf("%s: Way told again: %s, not %s", s.what, got, told)
			}
			spoil(dist, -9)
			spoil(via, -9)
			dist, via, _ = paths.From(s.m, v)
			if got := fmt.Sprint(dist, via); got != want {
				t.Fatalf("%s: From told again: %s, not %s", s.what, got, want)
			}
		}
		if got := fmt.Sprint(s); got != before {
			t.Fatalf("%s: changed: %s, not %s", s.what, got, before)
		}
	}
}
