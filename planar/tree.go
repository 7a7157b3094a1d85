package planar

import (
	"cmp"
	"slices"

	"filigree/api"
)

// tree is a block that was walked over, always on to a new vertex as long as there is one. Vertices are numbered in the
// order in which they were come to. An edge leads to a number that was come to over it, or back to one on the way from 0
// to where it begins: none leads from one branch across to another.
//
// A dart to a greater number stands for all that is beyond it, too; one to a lesser number for an edge that leads back.
type tree struct {
	names []int   // of each number the vertex
	up    []int   // the number that it was come to from; -1: none
	down  [][]int // the numbers that were come to from it, the one with the most beyond it first
	back  [][]int // the numbers that edges lead back to from it, rising
	low   []int   // the least number that edges lead back to from it, or from beyond it
}

// walked is the tree of a block whose vertices have these neighbours.
func walked(near [][]int) *tree {
	t := &tree{down: make([][]int, len(near)), back: make([][]int, len(near)), low: make([]int, len(near))}
	numbers := t.number(near)
	for number, v := range t.names {
		if number > 0 {
			t.down[t.up[number]] = append(t.down[t.up[number]], number)
		}
		// As numbers are gone through rising, so are the ones that edges lead back to.
		for _, u := range near[v] {
			if other := numbers[u]; other > number && t.up[other] != number {
				t.back[other] = append(t.back[other], number)
			}
		}
	}
	t.measure()
	return t
}

// step is a number on the way that is being walked, and which of its neighbours is looked at next.
type step struct{ number, next int }

// number walks over the block. It answers the number of each vertex.
func (t *tree) number(near [][]int) []int {
	const unseen = -1
	numbers := make([]int, len(near))
	for v := range numbers {
		numbers[v] = unseen
	}
	var path []step
	come := func(v, up int) {
		numbers[v] = len(t.names)
		path = append(path, step{number: numbers[v]})
		t.names, t.up = append(t.names, v), append(t.up, up)
	}
	come(0, -1)
	for len(path) > 0 {
		top := &path[len(path)-1]
		list := near[t.names[top.number]]
		if top.next == len(list) {
			path = path[:len(path)-1]
			continue
		}
		top.next++
		if v := list[top.next-1]; numbers[v] == unseen {
			come(v, top.number)
		}
	}
	return numbers
}

// measure tells how far back each number leads, and how much is beyond it. What is beyond a number has greater ones, and
// is measured ahead of it.
func (t *tree) measure() {
	sizes := make([]int, len(t.names))
	for v, list := range slices.Backward(t.down) {
		t.low[v], sizes[v] = v, 1
		if len(t.back[v]) > 0 {
			t.low[v] = t.back[v][0]
		}
		for _, next := range list {
			t.low[v] = min(t.low[v], t.low[next])
			sizes[v] += sizes[next]
		}
		slices.SortStableFunc(list, func(a, b int) int { return cmp.Compare(sizes[b], sizes[a]) })
	}
}

// ends is the numbers that what a dart stands for touches, apart from those that are beyond it; rising.
func (t *tree) ends(d api.Dart) []int {
	if d.V < d.U {
		return []int{d.V, d.U}
	}
	var list []int
	open := []int{d.V}
	for len(open) > 0 {
		v := open[len(open)-1]
		open = open[:len(open)-1]
		for _, end := range t.back[v] {
			if end >= d.U {
				break
			}
			list = append(list, end)
		}
		// Only what leads back past the dart is looked at. All looks of a drawing are few then: see way.
		for _, next := range t.down[v] {
			if t.low[next] < d.U {
				open = append(open, next)
			}
		}
	}
	slices.Sort(list)
	return append(slices.Compact(list), d.U)
}

// way is a way from the first end of a dart through what it stands for, and back to another number that this touches. It
// goes on to where the most is beyond, if that leads back past the dart: so whatever is left beside it, and leads back
// past the dart too, is at most half as much, and no number is looked at often.
func (t *tree) way(d api.Dart) []int {
	if d.V < d.U {
		return []int{d.U, d.V}
	}
	// In a block all leads back past the dart; but from 0 there is nothing past it, and the way closes.
	bound := max(d.U, 1)
	way := []int{d.U, d.V}
	for {
		v := way[len(way)-1]
		on := slices.IndexFunc(t.down[v], func(next int) bool { return t.low[next] < bound })
		if on < 0 {
			return append(way, t.back[v][0])
		}
		way = append(way, t.down[v][on])
	}
}

// beside tells the darts of what a way leaves of that which it goes through.
func (t *tree) beside(way []int, tell func(d api.Dart)) {
	for i, v := range way[1 : len(way)-1] {
		for _, next := range slices.Concat(t.down[v], t.back[v]) {
			if next != way[i+2] {
				tell(api.Dart{U: v, V: next})
			}
		}
	}
}
