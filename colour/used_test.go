package colour_test

import (
	"math"
	"testing"

	"filigree/colour"
)

// P1104: of nothing, of colours below 0, with colours left out, and at the ends of the type's range.
func TestUsed(t *testing.T) {
	for _, c := range []struct {
		what string
		c    []int
		want int
	}{
		{"nothing", nil, 0},
		{"an empty list", []int{}, 0},
		{"the least colour", []int{0}, 1},
		{"one colour alone", []int{4}, 5},
		{"one colour often", []int{0, 0, 0}, 1},
		{"rising", []int{0, 1, 2}, 3},
		{"falling", []int{3, 2, 1, 0}, 4},
		{"the greatest in the middle", []int{0, 6, 2}, 7},
		{"some left out", []int{0, 9, 0}, 10},
		{"0 left out", []int{3, 3, 1}, 4},
		{"all below 0", []int{-1, -7, -2}, 0},
		{"one below 0", []int{-1}, 0},
		{"some below 0", []int{-1, 2, -5, 0}, 3},
		{"0 and one below", []int{-1, 0}, 1},
		{"0 and one below, turned", []int{0, -1}, 1},
		{"the least number", []int{math.MinInt}, 0},
		{"the least number and 0", []int{math.MinInt, 0}, 1},
		{"the greatest number but one", []int{math.MaxInt - 1, 0}, math.MaxInt},
		{"the greatest number", []int{0, math.MaxInt}, math.MaxInt},
		{"the greatest number first", []int{math.MaxInt, 3, math.MinInt}, math.MaxInt},
	} {
		if got := colour.Used(c.c); got != c.want {
			t.Errorf("%s: %d, not %d", c.what, got, c.want)
		}
	}
}

// P1104: all lists of at most 4 colours from -2 to 4: no colour is as great as what is told, and the one below is there.
func TestUsedOfAll(t *testing.T) {
	for n := range 5 {
		lists(n, -2, 4, func(c []int) {
			got, there := colour.Used(c), false
			for _, one := range c {
				if one >= got {
					t.Fatalf("%d of %v", got, c)
				}
				there = there || one == got-1
			}
			if got < 0 || got > 0 && !there {
				t.Fatalf("%d of %v", got, c)
			}
		})
	}
}
