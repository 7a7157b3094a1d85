package matching_test

import (
	"fmt"
	"slices"
	"testing"

	"filigree/api"
	"filigree/matching"
)

// Rule 4: what is handed in is not changed, its spare room neither; what is refused neither.
func TestArgumentsStay(t *testing.T) {
	list := samples(10)
	for what, c := range wrongs() {
		list = append(list, sample{what, c.m})
	}
	for _, s := range list {
		mark := api.Edge{U: 77, V: 78, W: 79}
		edges := append(slices.Clone(s.m.E), mark, mark)
		m := api.Graph{N: s.m.N, E: edges[:len(s.m.E)]}
		in, p, k := matching.Perfect(m)
		if k != api.OK {
			in, p = []int{1, 0}, api.Proof{Y: []int64{5, 4}}
		}
		p.B = append(p.B, set(0, 0, 1, 2), set(3, 2, 1, 0))
		places, numbers, sets := append(slices.Clone(in), -77, -78), append(slices.Clone(p.Y), -79), append(slices.Clone(p.B), set(80))
		for i := range sets {
			sets[i].In = append(slices.Clone(sets[i].In), -81)[:len(sets[i].In)]
		}
		tell := func() string {
			told := fmt.Sprint(edges, places, numbers, sets)
			for _, b := range sets {
				told += fmt.Sprint(b.In[:len(b.In)+1])
			}
			return told
		}
		want := tell()
		for length := range places {
			for _, p := range []api.Proof{p, {Y: numbers[:len(p.Y)], B: sets[:len(p.B)]}, {Y: numbers[:len(p.Y)], B: sets[:len(p.B)-2]}} {
				matching.Right(m)
				matching.Check(m, places[:length])
				matching.Cost(m, places[:length])
				matching.Holds(m, places[:length], p)
				matching.Perfect(m)
			}
		}
		if got := tell(); got != want {
			t.Fatalf("%s: changed: %s, not %s", s.what, got, want)
		}
	}
}

// spoil writes over a list and its spare room.
func spoil[T any](list []T, mark T) {
	list = list[:cap(list)]
	for i := range list {
		list[i] = mark
	}
}

// Rules 4 and 5: what is handed out is new memory, and so is each list in it; told again it is the same.
func TestAnswersAreNew(t *testing.T) {
	sets := 0
	for _, s := range samples(12) {
		before := fmt.Sprint(s)
		in, p, _ := matching.Perfect(s.m)
		want := fmt.Sprint(in, p)
		sets += len(p.B)
		for i := range p.B {
			others := fmt.Sprint(in, p.Y, p.B[:i], p.B[i+1:])
			old := slices.Clone(p.B[i].In)
			spoil(p.B[i].In, -9)
			if got := fmt.Sprint(in, p.Y, p.B[:i], p.B[i+1:]); got != others {
				t.Fatalf("%s: a set shares memory: %s, not %s", s.what, got, others)
			}
			copy(p.B[i].In, old)
		}
		numbers := fmt.Sprint(p)
		spoil(in, -9)
		if got := fmt.Sprint(p); got != numbers {
			t.Fatalf("%s: places share memory: %s, not %s", s.what, got, numbers)
		}
		spoil(p.Y, -9)
		spoil(p.B, api.Blossom{Z: -9})
		if got := fmt.Sprint(s); got != before {
			t.Fatalf("%s: changed: %s, not %s", s.what, got, before)
		}
		in, p, _ = matching.Perfect(s.m)
		if got := fmt.Sprint(in, p); got != want {
			t.Fatalf("%s: told again: %s, not %s", s.what, got, want)
		}
	}
	if sets == 0 {
		t.Errorf("no proof has a set")
	}
}
