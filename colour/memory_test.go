package colour_test

import (
	"fmt"
	"slices"
	"testing"

	"filigree/api"
	"filigree/colour"
)

// roomy is a copy of lists, each with spare room in which marks stand, and the whole of it.
func roomy(r [][]int) (lists, whole [][]int) {
	for _, list := range r {
		long := append(slices.Clone(list), -77, -78)
		lists = append(lists, long[:len(list)])
		whole = append(whole, long)
	}
	spare := []int{-79}
	lists = append(lists, spare)
	return lists[:len(r)], append(whole, spare)
}

// askAll asks all that the package tells.
func askAll(g api.Graph, r [][]int, list []int) {
	colour.Five(g, r)
	colour.Check(g, list, 5)
	colour.Check(g, list, 0)
	colour.Check(g, list, g.N)
	colour.Greedy(g, list)
	colour.Used(list)
}

// Rule 4: what is handed in is not changed, its spare room neither; what is refused neither.
func TestArgumentsStay(t *testing.T) {
	d := dice(1111)
	samples := inPlane()
	samples = append(samples, sample{"bagel", of(bagel(3, 4)), bagel(3, 4)}, sample{"no system", of(ring(3)), ring(4)})
	for _, s := range samples {
		r, whole := roomy(s.r)
		mark := api.Edge{U: 77, V: 78, W: 79}
		marked := append(slices.Clone(s.g.E), mark, mark)
		g := api.Graph{N: s.g.N, E: marked[:len(s.g.E)]}
		c, _ := colour.Five(s.g, s.r)
		for _, list := range [][]int{d.order(g.N), c, make([]int, g.N), append(d.order(g.N), 0)} {
			long := append(slices.Clone(list), -80, -81)
			want := fmt.Sprint(r[:len(r)+1], whole, marked, long)
			askAll(g, r, long[:len(list)])
			if got := fmt.Sprint(r[:len(r)+1], whole, marked, long); got != want {
				t.Fatalf("%s: changed: %s, not %s", s.what, got, want)
			}
		}
	}
}

// spoil writes over a list and its spare room.
func spoil(list []int) {
	list = list[:cap(list)]
	for i := range list {
		list[i] = -1
	}
}

// Rules 4 and 5: what is handed out is new memory; told again it is the same.
func TestAnswersAreNew(t *testing.T) {
	d := dice(1112)
	for _, s := range inPlane() {
		order := d.order(s.g.N)
		before := fmt.Sprint(s, order)
		five, _ := colour.Five(s.g, s.r)
		greedy, _ := colour.Greedy(s.g, order)
		want := fmt.Sprint(five, greedy)
		spoil(five)
		spoil(greedy)
		if got := fmt.Sprint(s, order); got != before {
			t.Fatalf("%s: changed: %s, not %s", s.what, got, before)
		}
		for range 3 {
			five, _ = colour.Five(s.g, s.r)
			greedy, _ = colour.Greedy(s.g, order)
			if again := fmt.Sprint(five, greedy); again != want {
				t.Fatalf("%s: told again: %s, not %s", s.what, again, want)
			}
		}
	}
}
