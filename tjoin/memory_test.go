package tjoin_test

import (
	"fmt"
	"slices"
	"testing"

	"filigree/api"
	"filigree/tjoin"
)

// Rule 4: what is handed in is not changed, its spare room neither; what is refused neither.
func TestArgumentsStay(t *testing.T) {
	d := dice(14040)
	list := samples(11)
	for what, c := range wrongs() {
		list = append(list, sample{what, c.m})
	}
	for _, s := range list {
		mark := api.Edge{U: 77, V: 78, W: 79}
		edges := append(slices.Clone(s.m.E), mark, mark)
		m := api.Graph{N: s.m.N, E: edges[:len(s.m.E)]}
		odd := d.some(min(max(m.N, 0), 40), 2)
		vertices := append(slices.Clone(odd), -77, -78)
		in := append(d.some(len(m.E), 2), -79, -80)
		want := fmt.Sprint(edges, vertices, in)
		for length := range vertices {
			tjoin.Join(m, vertices[:length])
			tjoin.Check(m, vertices[:length], in[:len(in)-2])
			tjoin.Check(m, tjoin.Odd(m, in[:len(in)-2]), in[:len(in)-2])
		}
		for length := range in {
			tjoin.Odd(m, in[:length])
			tjoin.Check(m, vertices[:len(odd)], in[:length])
		}
		if got := fmt.Sprint(edges, vertices, in); got != want {
			t.Fatalf("%s: changed: %s, not %s", s.what, got, want)
		}
	}
}

// spoil writes over a list and its spare room.
func spoil(list []int) {
	list = list[:cap(list)]
	for i := range list {
		list[i] = -9
	}
}

// Rules 4 and 5: what is handed out is new memory; told again it is the same.
func TestAnswersAreNew(t *testing.T) {
	d := dice(14041)
	for _, s := range samples(14) {
		list := evened(s.m, d.some(s.m.N, 2))
		before := fmt.Sprint(s, list)
		in, cost, k := tjoin.Join(s.m, list)
		want := fmt.Sprint(in, cost, k)
		odd := tjoin.Odd(s.m, in)
		if !slices.Equal(odd, list) {
			t.Fatalf("%s: Join(%v, %v): %v, whose odd vertices are %v", s.what, s.m, list, in, odd)
		}
		spoil(odd)
		if got := fmt.Sprint(in, cost, k); got != want {
			t.Fatalf("%s: Odd shares memory: %s, not %s", s.what, got, want)
		}
		spoil(in)
		if got := fmt.Sprint(s, list); got != before {
			t.Fatalf("%s: changed: %s, not %s", s.what, got, before)
		}
		in, cost, k = tjoin.Join(s.m, list)
		if got := fmt.Sprint(in, cost, k); got != want {
			t.Fatalf("%s: told again: %s, not %s", s.what, got, want)
		}
		if odd := tjoin.Odd(s.m, in); !slices.Equal(odd, list) {
			t.Fatalf("%s: Odd told again: %v, not %v", s.what, odd, list)
		}
	}
}
