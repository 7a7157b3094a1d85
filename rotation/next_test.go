package rotation_test

import (
	"math"
	"testing"

	"filigree/api"
	"filigree/rotation"
)

// P701: the dart behind another, in lists that are a system and in such as are none.
func TestNextTold(t *testing.T) {
	system := [][]int{{2, 1, 3}, {0, 3, 2}, {0, 1, 3}, {0, 2, 1}}
	none := [][]int{{5, 5, 6, 5}, {}, nil, {-4, 3, math.MaxInt, math.MinInt}, {9}, {1, 2, 1, 3}, {8, 7, 7}}
	for _, c := range []struct {
		what string
		r    [][]int
		u, v int
		want api.Dart
	}{
		{"behind the first", system, 2, 0, api.Dart{U: 0, V: 1}},
		{"in the middle", system, 1, 0, api.Dart{U: 0, V: 3}},
		{"behind the last the first", system, 3, 0, api.Dart{U: 0, V: 2}},
		{"the last list", system, 2, 3, api.Dart{U: 3, V: 1}},
		{"one alone", none, 9, 4, api.Dart{U: 4, V: 9}},
		{"twice, beside each other: the first", none, 5, 0, api.Dart{U: 0, V: 5}},
		{"once among them", none, 6, 0, api.Dart{U: 0, V: 5}},
		{"twice, apart: the first", none, 1, 5, api.Dart{U: 5, V: 2}},
		{"the last beside others that are twice", none, 3, 5, api.Dart{U: 5, V: 1}},
		{"twice at the end: the first", none, 7, 6, api.Dart{U: 6, V: 7}},
		{"a number below 0", none, -4, 3, api.Dart{U: 3, V: 3}},
		{"a list's own number", none, 3, 3, api.Dart{U: 3, V: math.MaxInt}},
		{"the greatest number", none, math.MaxInt, 3, api.Dart{U: 3, V: math.MinInt}},
		{"the least number", none, math.MinInt, 3, api.Dart{U: 3, V: -4}},
	} {
		if got, there := rotation.Next(c.r, api.Dart{U: c.u, V: c.v}); got != c.want || !there {
			t.Errorf("%s: %v, %v, not %v", c.what, got, there, c.want)
		}
	}
}

// P701: false, and no dart.
func TestNoNext(t *testing.T) {
	r := [][]int{{2, 1, 3}, {}, nil, {0, 0}}
	for _, c := range []struct {
		what string
		r    [][]int
		u, v int
	}{
		{"no list at all", nil, 0, 0},
		{"no list, an empty one", [][]int{}, 0, 0},
		{"V below 0", r, 0, -1},
		{"V the least number", r, 0, math.MinInt},
		{"V one past the last", r, 0, 4},
		{"V the greatest number", r, 0, math.MaxInt},
		{"U not in the list", r, 4, 0},
		{"U not in the list, V itself", r, 0, 0},
		{"U below 0", r, -1, 0},
		{"U the least number", r, math.MinInt, 0},
		{"U the greatest number", r, math.MaxInt, 3},
		{"an empty list", r, 0, 1},
		{"a list that is nil", r, 0, 2},
	} {
		if got, there := rotation.Next(c.r, api.Dart{U: c.u, V: c.v}); there || got != (api.Dart{}) {
			t.Errorf("%s: %v, %v", c.what, got, there)
		}
	}
}

// P701, P702: each dart of a face is followed by the one behind it.
func TestNextGoesRoundFaces(t *testing.T) {
	for _, s := range samples() {
		faces, _ := rotation.Faces(s.g, s.r)
		for _, face := range faces {
			for i, d := range face {
				if got, there := rotation.Next(s.r, d); !there || got != face[(i+1)%len(face)] {
					t.Fatalf("behind %v of %v: %v, %v", d, face, got, there)
				}
			}
		}
	}
}
