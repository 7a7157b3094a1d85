package planar

import (
	"cmp"
	"slices"

	"filigree/api"
	"filigree/graph"
	"filigree/parts"
)

// moat is a closed way between two vertices of a block in the plane. All that hangs together with the one without the moat
// is its near side, and with the other one its far side.
type moat struct {
	round     []int // its vertices
	near, far []int // where it is touched from either side: places in round, rising
	// Of each vertex of the near side, and of those that it touches: from where it is come to. Likewise of the far side.
	nearFrom, farFrom []int
}

// hindrance is a few ways of a block in the plane, told by their vertices, that cannot be drawn together with a way from u
// to v. (With that way the block cannot, either.) They are a moat, and ways to it from both sides that cross, if both are
// drawn on the same side of it. As long as none do so, the far side could be turned over to where u is: then what hinders
// is within the far side, and of the near one just a way over u is needed.
func hindrance(h api.Graph, u, v int) [][]int {
	r, _ := drawn(h)
	for {
		m := moatBetween(h, r, u, v)
		from, to, there := m.gap()
		if !there {
			return m.tangle()
		}
		h, r = m.narrowed(h, r, v, from, to)
	}
}

// moatBetween is the moat next to u: of the blocks that are left without u, the one that v is in has a face that u lies
// in, and the moat goes around that face.
func moatBetween(h api.Graph, r [][]int, u, v int) moat {
	inside := blockWithout(h, u, v)
	m := moat{nearFrom: reached(r, u, func(w int) bool { return inside[w] })}
	first := 0
	for !inside[first] || m.nearFrom[first] < 0 {
		first++
	}
	on := make([]bool, h.N)
	for last, w := m.nearFrom[first], first; !on[w]; {
		m.round = append(m.round, w)
		on[w] = true
		last, w = w, after(r[w], last, inside)
	}
	m.farFrom = reached(r, v, func(w int) bool { return on[w] })
	for place, w := range m.round {
		if m.nearFrom[w] >= 0 {
			m.near = append(m.near, place)
		}
		if m.farFrom[w] >= 0 {
			m.far = append(m.far, place)
		}
	}
	return m
}

// blockWithout tells of each vertex whether it is in v's block, if u is left out.
func blockWithout(h api.Graph, u, v int) []bool {
	keep := make([]bool, h.N)
	for w := range keep {
		keep[w] = w != u
	}
	rest := graph.Only(h, keep)
	inside := make([]bool, h.N)
	for _, places := range parts.Blocks(rest) {
		touches := func(place int) bool { return rest.E[place].U == v || rest.E[place].V == v }
		if !slices.ContainsFunc(places, touches) {
			continue
		}
		for _, place := range places {
			inside[rest.E[place].U], inside[rest.E[place].V] = true, true
		}
	}
	return inside
}

// after is the first vertex inside that stands behind another one in a list; behind the last one stands the first.
func after(list []int, other int, inside []bool) int {
	at := slices.Index(list, other)
	turned := slices.Concat(list[at+1:], list[:at])
	return turned[slices.IndexFunc(turned, func(w int) bool { return inside[w] })]
}

// reached is of each vertex from where it is come to from the first one, by a way of the fewest edges; the first one from
// itself. -1: it is not come to. Where it is to end, no way goes on.
func reached(near [][]int, first int, ends func(v int) bool) []int {
	from := make([]int, len(near))
	for v := range from {
		from[v] = -1
	}
	from[first] = first
	line := []int{first}
	for len(line) > 0 {
		at := line[0]
		line = line[1:]
		if ends(at) {
			continue
		}
		for _, v := range near[at] {
			if from[v] < 0 {
				from[v] = at
				line = append(line, v)
			}
		}
	}
	return from
}

// wayBack is the way from a vertex that was reached to the first one.
func wayBack(from []int, v int) []int {
	way := []int{v}
	for from[v] != v {
		v = from[v]
		way = append(way, v)
	}
	return way
}

// steps is how many steps along the moat lead from one place on to another.
func (m moat) steps(from, to int) int { return (to - from + len(m.round)) % len(m.round) }

// arc is the vertices of the moat from one place on to another.
func (m moat) arc(from, to int) []int {
	list := make([]int, m.steps(from, to)+1)
	for i := range list {
		list[i] = m.round[(from+i)%len(m.round)]
	}
	return list
}

// outermost is of some places those that the fewest and the most steps lead to from another place.
func (m moat) outermost(places []int, from int) (first, last int) {
	by := func(a, b int) int { return cmp.Compare(m.steps(from, a), m.steps(from, b)) }
	return slices.MinFunc(places, by), slices.MaxFunc(places, by)
}

// gap is two places that the near side touches one after the other, such that the far side touches the moat nowhere but
// from the one on to the other.
func (m moat) gap() (from, to int, there bool) {
	for i, from := range m.near {
		to := m.near[(i+1)%len(m.near)]
		beyond := func(place int) bool { return m.steps(from, place) > m.steps(from, to) }
		if !slices.ContainsFunc(m.far, beyond) {
			return from, to, true
		}
	}
	return 0, 0, false
}

// narrowed is what is left of the block and its system, if the far side touches the moat in a gap only: what hangs
// together with v apart from the two outermost places that it touches, and a way from the one to the other over u.
func (m moat) narrowed(h api.Graph, r [][]int, v, from, to int) (api.Graph, [][]int) {
	first, last := m.outermost(m.far, from)
	isOutermost := func(w int) bool { return w == m.round[first] || w == m.round[last] }
	within := reached(r, v, isOutermost)
	stays := make(map[api.Dart]int)
	stay := func(list []int) {
		for i, w := range list[1:] {
			stays[api.Dart{U: list[i], V: w}]++
			stays[api.Dart{U: w, V: list[i]}]++
		}
	}
	stay(m.arc(from, first))
	stay(m.arc(last, to))
	stay(wayBack(m.nearFrom, m.round[from]))
	stay(wayBack(m.nearFrom, m.round[to]))
	isLeft := func(u, w int) bool {
		return within[u] >= 0 && !isOutermost(u) || within[w] >= 0 && !isOutermost(w) || stays[api.Dart{U: u, V: w}] > 0
	}
	left := api.Graph{N: h.N}
	for _, e := range h.E {
		if isLeft(e.U, e.V) {
			left.E = append(left.E, e)
		}
	}
	orders := make([][]int, h.N)
	for u, list := range r {
		orders[u] = slices.DeleteFunc(slices.Clone(list), func(w int) bool { return !isLeft(u, w) })
	}
	return left, orders
}

// tangle is the moat, and ways to it from both sides that cross: to two places of either side in turn, or else to three
// that are both sides' own. There is no gap.
func (m moat) tangle() [][]int {
	// If none of the first three places that the far side touches is one of two in turn, then there are no others, and the
	// near side touches the same ones.
	for _, place := range m.far[:min(3, len(m.far))] {
		first, last := m.outermost(less(m.near, []int{place}), place)
		for _, other := range m.far {
			if steps := m.steps(place, other); m.steps(place, first) < steps && steps < m.steps(place, last) {
				return m.tied([]int{first, last}, []int{place, other})
			}
		}
	}
	return m.tied(m.near, m.far)
}

// tied is the moat, and ways from both sides to these places of it.
func (m moat) tied(near, far []int) [][]int {
	ways := [][]int{append(slices.Clone(m.round), m.round[0])}
	for _, place := range near {
		ways = append(ways, wayBack(m.nearFrom, m.round[place]))
	}
	for _, place := range far {
		ways = append(ways, wayBack(m.farFrom, m.round[place]))
	}
	return ways
}
