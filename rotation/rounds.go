package rotation

import (
	"filigree/api"
	"filigree/graph"
)

// goRounds goes each round of a rotation system once, from its least dart on, the round of the least dart first, and tells
// its darts. What is told lasts till the next round only.
func goRounds(g api.Graph, r [][]int, tell func(face []api.Dart)) {
	left := behindEach(r, 2*len(g.E))
	starts := darts(g)
	var face []api.Dart
	// No edge goes from a vertex to itself: the dart 0 to 0 is never there, and the first start is taken.
	var d api.Dart
	begun := 0
round:
	for {
		behind, there := left[d]
		switch {
		case there:
			// A dart that was gone over is taken out: no round goes over it again, and its own one ends there.
			delete(left, d)
			face = append(face, d)
			d = behind
			continue round
		case len(face) > 0:
			tell(face)
			face = face[:0]
			fallthrough
		default:
			if begun == len(starts) {
				break round
			}
			// Starts rise: the first one that is left is the least of its round.
			d = starts[begun]
			begun++
		}
	}
}

// behindEach is of each dart the one behind it. There are size darts.
func behindEach(r [][]int, size int) map[api.Dart]api.Dart {
	behind := make(map[api.Dart]api.Dart, size)
	for v, list := range r {
		for at, u := range list {
			behind[api.Dart{U: u, V: v}] = api.Dart{U: v, V: after(list, at)}
		}
	}
	return behind
}

// darts is all of a graph's, rising by U, then V.
func darts(g api.Graph) []api.Dart {
	list := make([]api.Dart, 0, 2*len(g.E))
	for u, near := range graph.Near(g) {
		for _, v := range near {
			list = append(list, api.Dart{U: u, V: v})
		}
	}
	return list
}
