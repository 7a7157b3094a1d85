package levels_test

import (
	"fmt"
	"slices"
	"testing"

	"filigree/api"
	"filigree/levels"
)

// Rule 4: what is handed in is not changed, its spare room neither; what is refused neither.
func TestArgumentsStay(t *testing.T) {
	list := samples(16)
	for what, g := range wrongs() {
		if len(g.E) < 100 {
			list = append(list, sample{what, g})
		}
	}
	for _, s := range list {
		mark := api.Edge{U: 77, V: 78, W: 79}
		whole := append(slices.Clone(s.g.E), mark, mark, mark)
		want := slices.Clone(whole)
		g := api.Graph{N: s.g.N, E: whole[:len(s.g.E)]}
		levels.Of(g)
		for k := range api.MaxK + 2 {
			for shift := -1; shift <= k+1; shift++ {
				levels.Kept(g, k, shift)
				levels.Pieces(g, k, shift)
			}
		}
		if !slices.Equal(whole, want) {
			t.Fatalf("%s: changed: %v, not %v", s.what, whole, want)
		}
	}
}

// spoil writes over a list and its spare room.
func spoil[T any](list []T, mark T) {
	list = list[:cap(list)]
	for i := range list {
		list[i] = mark
	}
}

// answers is the text of all that the package tells.
func answers(g api.Graph, k, shift int) string {
	level, _ := levels.Of(g)
	kept, _ := levels.Kept(g, k, shift)
	pieces, _ := levels.Pieces(g, k, shift)
	return fmt.Sprint(level, kept, pieces)
}

// Rules 4 and 5: what is handed out is new memory; told again it is the same.
func TestAnswersAreNew(t *testing.T) {
	for _, s := range samples(16) {
		for k := 1; k <= 3; k++ {
			before, want := fmt.Sprint(s.g), answers(s.g, k, k-1)
			for _, mark := range []bool{false, true} {
				level, _ := levels.Of(s.g)
				spoil(level, -1)
				kept, _ := levels.Kept(s.g, k, k-1)
				spoil(kept, mark)
				pieces, _ := levels.Pieces(s.g, k, k-1)
				for _, piece := range pieces {
					spoil(piece, -1)
				}
				spoil(pieces, nil)
				if got := fmt.Sprint(s.g); got != before {
					t.Fatalf("%s: changed: %s, not %s", s.what, got, before)
				}
				if again := answers(s.g, k, k-1); again != want {
					t.Fatalf("%s: told again: %s, not %s", s.what, again, want)
				}
			}
		}
	}
}

// Rule 4: no two pieces share memory, spare room neither.
func TestPiecesAreApart(t *testing.T) {
	for _, s := range samples(16) {
		want, _ := levels.Pieces(s.g, 2, 1)
		for i := range want {
			got, _ := levels.Pieces(s.g, 2, 1)
			spoil(got[i], -1)
			_ = append(got[i], -2)
			got[i] = want[i]
			if !slices.EqualFunc(got, want, slices.Equal) {
				t.Fatalf("%s: piece %d is shared: %v, not %v", s.what, i, got, want)
			}
		}
	}
}
