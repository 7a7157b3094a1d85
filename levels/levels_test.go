package levels_test

import (
	"fmt"
	"slices"
	"testing"

	"filigree/api"
	"filigree/levels"
)

// isTold fails the test unless all three answer these.
func isTold(t *testing.T, what string, g api.Graph, k, shift int, level []int, kept []bool, pieces [][]int) {
	t.Helper()
	if got, kind := levels.Of(g); !slices.Equal(got, level) || kind != api.OK {
		t.Fatalf("%s: %v: Of: %v, kind %d, not %v", what, g, got, int(kind), level)
	}
	if got, kind := levels.Kept(g, k, shift); !slices.Equal(got, kept) || kind != api.OK {
		t.Fatalf("%s: %v: Kept with %d, %d: %v, kind %d, not %v", what, g, k, shift, got, int(kind), kept)
	}
	if got, kind := levels.Pieces(g, k, shift); !slices.EqualFunc(got, pieces, slices.Equal) || kind != api.OK {
		t.Fatalf("%s: %v: Pieces with %d, %d: %v, kind %d, not %v", what, g, k, shift, got, int(kind), pieces)
	}
}

// written is what is answered, written out.
type written struct {
	what     string
	g        api.Graph
	k, shift int
	level    []int
	kept     string // of each vertex 1, if it stays
	pieces   [][]int
}

// truths is a truth of each digit.
func truths(digits string) []bool {
	list := make([]bool, len(digits))
	for i := range digits {
		list[i] = digits[i] == '1'
	}
	return list
}

func cases() []written {
	four := sorted(4, along(0, 1, 2, 3)...)
	nine := sorted(9, along(upTo(9)...)...)
	mixed := sorted(9, along(5, 3, 8, 0, 7, 1, 6, 2, 4)...)
	star := sorted(5, around(4, upTo(5)...)...)
	square := sorted(9, board(3, 3)...)
	several := sorted(9, slices.Concat(along(6, 3, 0), round(1, 8, 2, 5))...)
	return []written{
		{"the chapter's example", four, 1, 0, []int{0, 1, 2, 3}, "0101", [][]int{{1}, {3}}},
		{"the chapter's way, the other shift", four, 1, 1, []int{0, 1, 2, 3}, "1010", [][]int{{0}, {2}}},
		{"the chapter's way, MaxK", four, api.MaxK, 0, []int{0, 1, 2, 3}, "0111", [][]int{{1, 2, 3}}},
		{"the chapter's way, a shift beyond all", four, api.MaxK, 4, []int{0, 1, 2, 3}, "1111", [][]int{{0, 1, 2, 3}}},
		{"the chapter's way, the last", four, api.MaxK, 3, []int{0, 1, 2, 3}, "1110", [][]int{{0, 1, 2}}},
		{"no vertex", api.Graph{}, 1, 0, nil, "", nil},
		{"one vertex, gone", api.Graph{N: 1}, 1, 0, []int{0}, "0", nil},
		{"one vertex, kept", api.Graph{N: 1}, 1, 1, []int{0}, "1", [][]int{{0}}},
		{"no edge, gone", api.Graph{N: 3}, 2, 0, []int{0, 0, 0}, "000", nil},
		{"no edge, kept", api.Graph{N: 3}, 2, 2, []int{0, 0, 0}, "111", [][]int{{0}, {1}, {2}}},
		{"nine, 2 and 0", nine, 2, 0, upTo(9), "011011011", [][]int{{1, 2}, {4, 5}, {7, 8}}},
		{"nine, 2 and 1", nine, 2, 1, upTo(9), "101101101", [][]int{{0}, {2, 3}, {5, 6}, {8}}},
		{"nine, 2 and 2", nine, 2, 2, upTo(9), "110110110", [][]int{{0, 1}, {3, 4}, {6, 7}}},
		{"nine, 3 and 2", nine, 3, 2, upTo(9), "110111011", [][]int{{0, 1}, {3, 4, 5}, {7, 8}}},
		{"nine, 8 and 8", nine, 8, 8, upTo(9), "111111110", [][]int{{0, 1, 2, 3, 4, 5, 6, 7}}},
		{"nine, mixed", mixed, 2, 0, []int{0, 2, 4, 2, 5, 3, 3, 1, 1}, "011110011", [][]int{{1, 7}, {2, 4}, {3, 8}}},
		{"nine, mixed, two pieces at one gone vertex", mixed, 3, 0, []int{0, 2, 4, 2, 5, 3, 3, 1, 1}, "010111111", [][]int{{1, 6, 7}, {3, 5, 8}, {4}}},
		{"nine, mixed, 1 and 1", mixed, 1, 1, []int{0, 2, 4, 2, 5, 3, 3, 1, 1}, "111100000", [][]int{{0}, {1}, {2}, {3}}},
		{"a star around the greatest", star, 1, 0, []int{0, 2, 2, 2, 1}, "00001", [][]int{{4}}},
		{"a star around the greatest, without it", star, 1, 1, []int{0, 2, 2, 2, 1}, "11110", [][]int{{0}, {1}, {2}, {3}}},
		{"a board", square, 2, 0, []int{0, 1, 2, 1, 2, 3, 2, 3, 4}, "011110101", [][]int{{1, 2, 3, 4, 6}, {8}}},
		{"a board, 1 and 0", square, 1, 0, []int{0, 1, 2, 1, 2, 3, 2, 3, 4}, "010101010", [][]int{{1}, {3}, {5}, {7}}},
		{"several, each from its own least", several, 1, 0, []int{0, 0, 2, 1, 0, 1, 2, 0, 1}, "000101001", [][]int{{3}, {5}, {8}}},
		{"several, the other shift", several, 1, 1, []int{0, 0, 2, 1, 0, 1, 2, 0, 1}, "111010110", [][]int{{0}, {1}, {2}, {4}, {6}, {7}}},
		{"several, two levels", several, 2, 2, []int{0, 0, 2, 1, 0, 1, 2, 0, 1}, "110111011", [][]int{{0, 3}, {1, 5, 8}, {4}, {7}}},
	}
}

// P1801, P1802, P1803: what is written out.
func TestWritten(t *testing.T) {
	for _, c := range cases() {
		isTold(t, c.what, c.g, c.k, c.shift, c.level, truths(c.kept), c.pieces)
	}
}

// P1801: a way of 40 vertices has a level for each, in its order, from its least one on into both directions.
func TestLevelsOfWays(t *testing.T) {
	d := dice(1801)
	for n := 1; n <= 40; n++ {
		order := d.order(n)
		least := slices.Index(order, 0)
		want := make([]int, n)
		for at, v := range order {
			want[v] = max(at-least, least-at)
		}
		got, kind := levels.Of(sorted(n, along(order...)...))
		if !slices.Equal(got, want) || kind != api.OK {
			t.Fatalf("%v: %v, kind %d, not %v", order, got, int(kind), want)
		}
	}
}

// P1801: on a ring levels go up from the least vertex on both sides.
func TestLevelsOfRings(t *testing.T) {
	d := dice(1802)
	for n := 3; n <= 40; n++ {
		order := d.order(n)
		least := slices.Index(order, 0)
		want := make([]int, n)
		for at, v := range order {
			far := (at - least + n) % n
			want[v] = min(far, n-far)
		}
		got, kind := levels.Of(sorted(n, round(order...)...))
		if !slices.Equal(got, want) || kind != api.OK {
			t.Fatalf("%v: %v, kind %d, not %v", order, got, int(kind), want)
		}
	}
}

// P1801: on a board a vertex's level is the sum of its row and its column.
func TestLevelsOfBoards(t *testing.T) {
	for rows := 1; rows <= 9; rows++ {
		for columns := 1; columns <= 9; columns++ {
			want := make([]int, rows*columns)
			for v := range want {
				want[v] = v/columns + v%columns
			}
			got, kind := levels.Of(sorted(rows*columns, board(rows, columns)...))
			if !slices.Equal(got, want) || kind != api.OK {
				t.Fatalf("%d times %d: %v, kind %d, not %v", rows, columns, got, int(kind), want)
			}
		}
	}
}

// P1801, P1802, P1803: all graphs of at most 5 vertices with each k and each shift, of 6 with those that leave out one of their levels.
func TestSmalls(t *testing.T) {
	for n := range 7 {
		smalls(n, func(g api.Graph) {
			level := levelsOf(g)
			each(func(k, shift int) {
				if n == 6 && (k > 4 || shift > slices.Max(level)) {
					return
				}
				kept := keptOf(level, k, shift)
				isTold(t, "small", g, k, shift, level, kept, piecesOf(g, kept))
			})
		})
	}
}

// P1801, P1802, P1803: greater graphs of many kinds, with each k and each shift.
func TestGreater(t *testing.T) {
	for _, s := range samples(24) {
		level := levelsOf(s.g)
		each(func(k, shift int) {
			kept := keptOf(level, k, shift)
			isTold(t, s.what, s.g, k, shift, level, kept, piecesOf(s.g, kept))
		})
	}
}

// P1802: of levels below shift, just at it and above it.
func TestKeptByShift(t *testing.T) {
	const n = 60
	g := sorted(n, along(upTo(n)...)...)
	each(func(k, shift int) {
		kept, kind := levels.Kept(g, k, shift)
		if kind != api.OK || len(kept) != n {
			t.Fatalf("%d, %d: %d truths, kind %d", k, shift, len(kept), int(kind))
		}
		gone := 0
		for v, stays := range kept {
			if v < shift && !stays {
				t.Errorf("%d, %d: %d goes", k, shift, v)
			}
			if !stays {
				if v != shift+gone*(k+1) {
					t.Errorf("%d, %d: %d goes as the one numbered %d", k, shift, v, gone)
				}
				gone++
			}
		}
		if want := (n - shift + k) / (k + 1); gone != want {
			t.Errorf("%d, %d: %d go, not %d", k, shift, gone, want)
		}
	})
}

// P1801 to P1803: weights change nothing.
func TestWeightsMeanNothing(t *testing.T) {
	tell := func(g api.Graph) string {
		level, _ := levels.Of(g)
		kept, _ := levels.Kept(g, 2, 1)
		pieces, _ := levels.Pieces(g, 2, 1)
		return fmt.Sprint(level, kept, pieces)
	}
	for _, s := range samples(16) {
		other := api.Graph{N: s.g.N, E: slices.Clone(s.g.E)}
		for place := range other.E {
			other.E[place].W = int64(place%3-1) * (api.MaxW - 1)
		}
		if a, b := tell(s.g), tell(other); a != b {
			t.Fatalf("%s: %s, with other weights %s", s.what, a, b)
		}
	}
}
