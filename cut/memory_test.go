package cut_test

import (
	"fmt"
	"slices"
	"testing"

	"filigree/api"
	"filigree/cut"
)

// roomy is a copy of lists, each with spare room in which marks stand, and the whole of it.
func roomy(r [][]int) (lists, whole [][]int) {
	for _, list := range r {
		long := append(slices.Clone(list), -77, -78)
		lists = append(lists, long[:len(list)])
		whole = append(whole, long)
	}
	spare := []int{-79}
	lists = append(lists, spare)
	return lists[:len(r)], append(whole, spare)
}

// askAll asks all that the package tells.
func askAll(g api.Graph, r [][]int, side []bool) {
	cut.Across(g, side)
	cut.Weight(g, side)
	cut.Max(g, r)
	cut.Bound(g)
}

// Rule 4: what is handed in is not changed, its spare room neither; what is refused neither.
func TestArgumentsStay(t *testing.T) {
	d := dice(1550)
	list := samples(13)
	many := apart(300)
	list = append(list, sample{"bagel", of(bagel(3, 4)), bagel(3, 4)}, sample{"no system", of(ring(3)), ring(4)},
		sample{"below 0", light(of(wheel(6))), wheel(6)}, sample{"too large", of(many), many})
	for what, g := range wrongs() {
		if len(g.E) < 100 {
			list = append(list, sample{what, g, ring(3)})
		}
	}
	for _, s := range list {
		r, whole := roomy(s.r)
		mark := api.Edge{U: 77, V: 78, W: 79}
		marked := append(slices.Clone(s.g.E), mark, mark)
		g := api.Graph{N: s.g.N, E: marked[:len(s.g.E)]}
		side := append(d.truths(len(s.r)), true, false, true)
		want := fmt.Sprint(r[:len(r)+1], whole, marked, side)
		askAll(g, r, side[:len(s.r)])
		askAll(g, r, side)
		if got := fmt.Sprint(r[:len(r)+1], whole, marked, side); got != want {
			t.Fatalf("%s: changed: %s, not %s", s.what, got, want)
		}
	}
}

// spoil writes over a list and its spare room.
func spoil[T any](list []T, mark T) {
	list = list[:cap(list)]
	for i := range list {
		list[i] = mark
	}
}

// answers is the text of all that the package tells.
func answers(s sample, side []bool) string {
	across, _ := cut.Across(s.g, side)
	w, _ := cut.Weight(s.g, side)
	heaviest, most, _ := cut.Max(s.g, s.r)
	bound, _ := cut.Bound(s.g)
	return fmt.Sprint(across, w, heaviest, most, bound)
}

// Rules 4 and 5: what is handed out is new memory; told again it is the same.
func TestAnswersAreNew(t *testing.T) {
	d := dice(1551)
	for _, s := range samples(15) {
		side := d.truths(s.g.N)
		before, want := fmt.Sprint(s, side), answers(s, side)
		for _, mark := range []bool{false, true} {
			across, _ := cut.Across(s.g, side)
			spoil(across, -1)
			heaviest, _, _ := cut.Max(s.g, s.r)
			spoil(heaviest, mark)
			if got := fmt.Sprint(s, side); got != before {
				t.Fatalf("%s: changed: %s, not %s", s.what, got, before)
			}
			if again := answers(s, side); again != want {
				t.Fatalf("%s: told again: %s, not %s", s.what, again, want)
			}
		}
		// What Max hands out may be handed in again.
		heaviest, _, _ := cut.Max(s.g, s.r)
		isWeighed(t, s.what, s.g, heaviest)
	}
}
