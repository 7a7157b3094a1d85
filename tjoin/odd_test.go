package tjoin_test

import (
	"fmt"
	"math"
	"slices"
	"testing"

	"filigree/api"
	"filigree/tjoin"
)

// isOdd fails the test unless Odd tells these vertices.
func isOdd(t *testing.T, what string, m api.Graph, in, want []int) {
	t.Helper()
	if got := tjoin.Odd(m, in); !slices.Equal(got, want) {
		t.Fatalf("%s: Odd(%v, %v): %v, not %v", what, m, in, got, want)
	}
}

// places hands out every list of at most so many numbers from low to high.
func places(most, low, high int, with func(list []int)) {
	var list []int
	var choose func()
	choose = func() {
		with(list)
		if len(list) == most {
			return
		}
		for number := low; number <= high; number++ {
			list = append(list, number)
			choose()
			list = list[:len(list)-1]
		}
	}
	choose()
}

// P1401: odd vertices told by hand.
func TestOddTold(t *testing.T) {
	m := multi(5, [3]int64{0, 1, 2}, [3]int64{2, 1, 3}, [3]int64{1, 1, 4}, [3]int64{1, 0, 5}, [3]int64{4, 3, 0})
	for _, c := range []struct {
		what string
		in   []int
		want string
	}{
		{"nothing", nil, "[]"},
		{"an empty list", []int{}, "[]"},
		{"an edge", []int{0}, "[0 1]"},
		{"an edge whose ends fall", []int{1}, "[1 2]"},
		{"a loop", []int{2}, "[]"},
		{"a loop twice", []int{2, 2}, "[]"},
		{"a loop and an edge at it", []int{2, 0}, "[0 1]"},
		{"a way", []int{0, 1}, "[0 2]"},
		{"a way from behind", []int{1, 0}, "[0 2]"},
		{"side by side", []int{0, 3}, "[]"},
		{"an edge twice", []int{0, 0}, "[]"},
		{"an edge thrice", []int{0, 0, 0}, "[0 1]"},
		{"an edge twice, and others between", []int{1, 0, 4, 1}, "[0 1 3 4]"},
		{"two components", []int{4, 1}, "[1 2 3 4]"},
		{"all", []int{0, 1, 2, 3, 4}, "[1 2 3 4]"},
		{"a place below 0", []int{-1}, "[]"},
		{"a place beyond", []int{5}, "[]"},
		{"a place below 0 among others", []int{0, -1, 1}, "[]"},
		{"a place beyond behind others", []int{0, 1, 5}, "[]"},
		{"a place beyond ahead of others", []int{5, 0}, "[]"},
		{"a place beyond, twice", []int{0, 5, 5}, "[]"},
		{"the least place", []int{4, math.MinInt}, "[]"},
		{"the greatest place", []int{4, math.MaxInt}, "[]"},
	} {
		if got := fmt.Sprint(tjoin.Odd(m, c.in)); got != c.want {
			t.Errorf("%s: %v: %s, not %s", c.what, c.in, got, c.want)
		}
	}
}

// P1401: all lists of places, none of m's among them, of all multigraphs of few vertices and edges.
func TestOddOfAll(t *testing.T) {
	multigraphs(3, 2, []int64{1}, func(m api.Graph) {
		places(4, -1, 2, func(in []int) {
			var want []int
			if !slices.ContainsFunc(in, func(place int) bool { return place == -1 || place >= len(m.E) }) {
				want = oddOf(m, in)
			}
			isOdd(t, "small", m, in, want)
		})
	})
}

// P1401: drawn lists of places, of multigraphs of many kinds.
func TestOddOfMany(t *testing.T) {
	d := dice(14010)
	for _, s := range samples(14) {
		if len(s.m.E) == 0 {
			isOdd(t, s.what, s.m, nil, nil)
			isOdd(t, s.what, s.m, []int{0}, nil)
			continue
		}
		for range 5 {
			in := make([]int, d.below(2*len(s.m.E)))
			for i := range in {
				in[i] = d.below(len(s.m.E))
			}
			isOdd(t, s.what, s.m, in, oddOf(s.m, in))
			isOdd(t, s.what+", and no place", s.m, append(in, len(s.m.E)), nil)
		}
	}
}

// P1401: of a multigraph that is not right there are none, whatever the places are.
func TestOddOfWrong(t *testing.T) {
	for what, c := range wrongs() {
		for _, in := range [][]int{nil, {}, {0}, {0, 1}, {2}, {-1}, {math.MaxInt}} {
			isOdd(t, what, c.m, in, nil)
		}
	}
}
