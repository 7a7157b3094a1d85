package pfaffian_test

import (
	"fmt"
	"math/big"
	"slices"
	"testing"

	"filigree/api"
	"filigree/pfaffian"
)

// fibonacci is how many ways there are to cover a board of two rows.
func fibonacci(columns int) *big.Int {
	a, b := big.NewInt(1), big.NewInt(1)
	for range columns {
		a.Add(a, b)
		a, b = b, a
	}
	return a
}

// P1703: MaxCount vertices are counted.
func TestCountOfMaxCount(t *testing.T) {
	const n = api.MaxCount
	one := big.NewInt(1)
	d := dice(1770)
	for _, c := range []struct {
		what string
		r    [][]int
		want *big.Int
	}{
		{"no edge", alone(n), new(big.Int)},
		{"a way", way(n), one},
		{"a ring", ring(n), big.NewInt(2)},
		{"a star", star(n), new(big.Int)},
		{"a wheel", wheel(n), big.NewInt(n - 1)},
		{"two rows", grid(n/2, 2), fibonacci(n / 2)},
		{"edges apart", copies(n/2, way(2)), one},
		{"squares apart", copies(n/4, ring(4)), new(big.Int).Lsh(one, n/4)},
		{"squares in a row", d.named(copies(n/4, ring(4))), new(big.Int).Lsh(one, n/4)},
		{"a long way, and one alone in an odd number", beside(way(n-1), alone(1)), new(big.Int)},
		{"four rows", grid(n/4, 4), byFront(of(grid(n/4, 4)))},
		{"rings of 4", nest(n/4, 4), byFront(of(nest(n/4, 4)))},
		{"aztec 44, and edges apart", beside(aztec(44), copies((n-3960)/2, way(2))), new(big.Int).Lsh(one, 990)},
	} {
		if len(c.r) != n {
			t.Errorf("%s: %d vertices", c.what, len(c.r))
		}
		isCount(t, c.what, of(c.r), c.r, c.want)
	}
}

// P1703: a board of 64 times 64 is covered in 2^32 times the square of an odd number of ways, as is known.
func TestCountOfGreatBoard(t *testing.T) {
	r := grid(64, 64)
	count, k := pfaffian.Count(of(r), r)
	ways := wide(t, count)
	if k != api.OK || ways.BitLen() != 1696 || ways.TrailingZeroBits() != 32 {
		t.Fatalf("%v: %d bits, %d of them noughts, kind %d", ways, ways.BitLen(), ways.TrailingZeroBits(), int(k))
	}
	odd := new(big.Int).Rsh(ways, 32)
	root := new(big.Int).Sqrt(odd)
	if new(big.Int).Mul(root, root).Cmp(odd) != 0 {
		t.Fatalf("%v: not a square", odd)
	}
}

// P1703: one vertex more is too many, whether it makes the count 0 or not; Orient and Check answer still.
func TestAboveMaxCount(t *testing.T) {
	const n = api.MaxCount
	d := dice(1771)
	for what, r := range map[string][][]int{
		"no edge": alone(n + 1), "a way": way(n + 1), "a way and one alone": beside(way(n), alone(1)), "a ring": ring(n + 1), "two more": way(n + 2),
		"a board": grid(17, 241), "squares apart": copies(n/4+1, ring(4)), "a tree": d.tree(n + 1), "triangles": d.triangles(n + 1), "twice as many": ring(2 * n),
	} {
		g := of(r)
		isUncounted(t, what, g, r, api.TooLarge)
		isOriented(t, what, g, r)
	}
}

// P1702: MaxCount vertices have their rows.
func TestMatrixOfMaxCount(t *testing.T) {
	const n = api.MaxCount
	g := of(ring(n))
	m, k := pfaffian.Matrix(g, make([]bool, len(g.E)))
	if k != api.OK || len(m) != n {
		t.Fatalf("%d rows, kind %d", len(m), int(k))
	}
	for u, row := range m {
		if len(row) != n {
			t.Fatalf("row %d: %d numbers", u, len(row))
		}
		isOther := func(number api.Int) bool { return len(number.Mag) > 0 }
		at := slices.IndexFunc(row, isOther)
		if near := []int{(u + n - 1) % n, (u + 1) % n}; at != slices.Min(near) || len(row[slices.Max(near)].Mag) == 0 {
			t.Fatalf("row %d: %d", u, at)
		}
	}
}

// P1701: MaxN vertices with no edge, in a row and as triangles apart; and as many edges as a plane has room for.
func TestGreatDirections(t *testing.T) {
	const n = api.MaxN
	for what, r := range map[string][][]int{"no edge": alone(n), "way": way(n), "triangles apart": copies(n/3, ring(3)), "poles": poles(n / 8), "grid": grid(1<<9, 1<<8)} {
		g := of(r)
		along, k := pfaffian.Orient(g, r)
		if k != api.OK || len(along) != len(g.E) {
			t.Fatalf("%s: %d truths, kind %d", what, len(along), int(k))
		}
		isChecked(t, what, g, r, along, api.OK)
		isUncounted(t, what, g, r, api.TooLarge)
		if what == "poles" || what == "grid" {
			isChecked(t, what+", one turned", g, r, turned(along, len(along)/2), api.BadWitness)
		}
	}
	isRefused(t, "one vertex more", api.Graph{N: n + 1}, alone(n+1), nil, api.BadArg)
}

// P1702, P1703: MaxM edges have their places in the matrix, though no plane has room for them.
func TestMostEdges(t *testing.T) {
	g := full(api.MaxM)
	isUncounted(t, "MaxM", g, rising(g), api.BadRotation)
	along := make([]bool, len(g.E))
	for place := range along {
		along[place] = place%3 == 0
	}
	m, k := pfaffian.Matrix(g, along)
	if k != api.OK || len(m) != g.N {
		t.Fatalf("%d rows, kind %d", len(m), int(k))
	}
	for place, e := range g.E {
		from, to := e.V, e.U
		if place%3 == 0 {
			from, to = e.U, e.V
		}
		if one, other := m[from][to], m[to][from]; one.Neg || !other.Neg || !slices.Equal(one.Mag, []uint32{1}) || !slices.Equal(other.Mag, []uint32{1}) {
			t.Fatalf("edge %v: %v and %v", e, one, other)
		}
	}
}

// P1703: TooLarge is told of no graph of at most MaxCount vertices: all sizes of some shape.
func TestCountOfSizes(t *testing.T) {
	for n := 4; n <= api.MaxCount; n += 1 + n*3/4 {
		want := new(big.Int)
		if n%2 == 0 {
			want.SetInt64(int64(n - 1))
		}
		isCount(t, fmt.Sprint("a wheel of ", n), of(wheel(n)), wheel(n), want)
	}
}
