package kuratowski_test

import (
	"math/bits"
	"slices"

	"filigree/api"
)

// This file holds the chapter's section 'Words' itself: slow, and by its definitions alone.

// degreesOf is of each vertex how many of these edges end at it.
func degreesOf(g api.Graph, in []int) []int {
	degrees := make([]int, g.N)
	for _, place := range in {
		degrees[g.E[place].U]++
		degrees[g.E[place].V]++
	}
	return degrees
}

// listsOf is every list of vertices that is a way of these edges, as it is gone forth and as it is gone back.
func listsOf(g api.Graph, in []int) [][]int {
	degrees := degreesOf(g, in)
	var lists [][]int
	var extend func(list, gone []int)
	extend = func(list, gone []int) {
		last := list[len(list)-1]
		for _, place := range in {
			e := g.E[place]
			if e.U != last && e.V != last || slices.Contains(gone, place) {
				continue
			}
			next := e.U + e.V - last
			longer := append(slices.Clone(list), next)
			switch {
			case degrees[next] > 2:
				lists = append(lists, longer)
			case degrees[next] == 2 && !slices.Contains(list, next):
				extend(longer, append(slices.Clone(gone), place))
			}
		}
	}
	for v, degree := range degrees {
		if degree > 2 {
			extend([]int{v}, nil)
		}
	}
	return lists
}

// toldOf is every way once, as P801 tells it: of the two lists of a way the one whose vertices are lesser.
func toldOf(g api.Graph, in []int) [][]int {
	var told [][]int
	for _, list := range listsOf(g, in) {
		back := slices.Clone(list)
		slices.Reverse(back)
		if slices.Compare(list, back) < 0 {
			told = append(told, list)
		}
	}
	slices.SortFunc(told, slices.Compare)
	return told
}

// isOn tells whether an edge is on one of these ways.
func isOn(e api.Edge, ways [][]int) bool {
	return slices.ContainsFunc(ways, func(way []int) bool {
		for i := range way[1:] {
			if min(way[i], way[i+1]) == e.U && max(way[i], way[i+1]) == e.V {
				return true
			}
		}
		return false
	})
}

// hasWays tells whether no vertex has degree 1, and each edge is on a way.
func hasWays(g api.Graph, in []int) bool {
	told := toldOf(g, in)
	return !slices.Contains(degreesOf(g, in), 1) &&
		!slices.ContainsFunc(in, func(place int) bool { return !isOn(g.E[place], told) })
}

// corneredOf is the corners, if they are so many and all of this degree, and each other vertex has degree 0 or 2.
func corneredOf(g api.Graph, in []int, many, degree int) []int {
	var corners []int
	for v, d := range degreesOf(g, in) {
		switch d {
		case 0, 2:
		case degree:
			corners = append(corners, v)
		default:
			return nil
		}
	}
	if len(corners) != many {
		return nil
	}
	return corners
}

// times is how many ways have these two ends.
func times(ways [][]int, a, b int) int {
	n := 0
	for _, way := range ways {
		if way[0] == min(a, b) && way[len(way)-1] == max(a, b) {
			n++
		}
	}
	return n
}

// isFiveOf tells whether these edges are a subdivision of K5.
func isFiveOf(g api.Graph, in []int) bool {
	corners, ways := corneredOf(g, in, 5, 4), toldOf(g, in)
	if corners == nil || len(ways) != 10 || !hasWays(g, in) {
		return false
	}
	for i, a := range corners {
		for _, b := range corners[:i] {
			if times(ways, a, b) != 1 {
				return false
			}
		}
	}
	return true
}

// isThreesOf tells whether these edges are a subdivision of K3,3: it tries each three of the corners.
func isThreesOf(g api.Graph, in []int) bool {
	corners, ways := corneredOf(g, in, 6, 3), toldOf(g, in)
	if corners == nil || len(ways) != 9 || !hasWays(g, in) {
		return false
	}
	for set := range uint(1 << 6) {
		if bits.OnesCount(set) == 3 && isParted(ways, corners, set) {
			return true
		}
	}
	return false
}

// isParted tells whether just one way is between each corner of a set and each one that is not in it, and no other way.
func isParted(ways [][]int, corners []int, set uint) bool {
	for i, a := range corners {
		for j, b := range corners[:i+1] {
			want := int((set>>i ^ set>>j) & 1)
			if times(ways, a, b) != want {
				return false
			}
		}
	}
	return true
}

// classOf is the class of these edges; 0: they are no witness.
func classOf(g api.Graph, in []int) int {
	switch {
	case isFiveOf(g, in):
		return 5
	case isThreesOf(g, in):
		return 33
	}
	return 0
}
