package matching

import (
	"slices"
	"testing"

	"filigree/api"
)

// drawn is a multigraph of n vertices, an even number, with a perfect matching, and with costs below spread; the numbers come from
// seed, and it is the next one.
func drawn(seed uint64, n, edges, spread int) (api.Graph, uint64) {
	below := func(n int) int {
		seed ^= seed << 13
		seed ^= seed >> 7
		seed ^= seed << 17
		return int(seed % uint64(n))
	}
	m := api.Graph{N: n}
	for v := 1; v < n; v += 2 {
		m.E = append(m.E, api.Edge{U: v - 1, V: v, W: int64(below(spread))})
	}
	for range edges {
		u := below(n)
		m.E = append(m.E, api.Edge{U: u, V: (u + 1 + below(n-1)) % n, W: int64(below(spread))})
	}
	return m, seed
}

// events is how often something happened.
type events struct{ closed, nested, opened, deep int }

// note counts what is about to happen at a node.
func (e *events) note(f *forest, x int) {
	isBlossom := func(part int) bool { return part >= f.m.N }
	n := f.nodes[x]
	switch {
	case n.side == inner:
		e.opened++
		if slices.ContainsFunc(n.parts, isBlossom) {
			e.deep++
		}
	case n.side == outer:
		root := f.common(f.top[n.nearest.from], x)
		if root == none {
			return
		}
		e.closed++
		if parts, _ := f.round(n.nearest, root); slices.ContainsFunc(parts, isBlossom) {
			e.nested++
		}
	}
}

// P1304: while a matching grows, its numbers prove at each step that it is the cheapest of its size; blossoms are made of
// blossoms, and opened again.
func TestEachStep(t *testing.T) {
	var seen events
	seed := uint64(1304)
	var m api.Graph
	for i := range 8000 {
		n := 4 + i%11*2
		m, seed = drawn(seed, n, n/2+i%13*n/4, 2+i%17*3)
		f := newForest(m)
		for range n / 2 {
			f.plant()
			for grown := false; !grown; {
				x, far := f.next()
				if x == none {
					t.Fatalf("%v: nothing happens any more", m)
				}
				isSound(t, f)
				f.move(far)
				seen.note(f, x)
				grown = f.reach(x)
			}
		}
		isSound(t, f)
	}
	if seen.closed < 3000 || seen.nested < 1000 || seen.opened < 300 || seen.deep < 50 {
		t.Errorf("too few: %+v", seen)
	}
}

// isSound fails the test unless a forest is what its fields are meant to be.
func isSound(t *testing.T, f *forest) {
	t.Helper()
	for _, e := range f.m.E {
		if rest(f, e.U, e.V) < 0 {
			t.Fatalf("%v: the edge %v is short by %d", f.m, e, -rest(f, e.U, e.V))
		}
	}
	for v, partner := range f.mate {
		if partner != none && (f.mate[partner] != v || rest(f, v, partner) != 0) {
			t.Fatalf("%v: %d is %d's partner, of slack %d", f.m, partner, v, rest(f, v, partner))
		}
		if chain := holders(f, v); f.top[v] != chain[len(chain)-1] {
			t.Fatalf("%v: %d is in %v, not in %d", f.m, v, chain, f.top[v])
		}
	}
	used := 0
	for x := range f.nodes {
		n := f.nodes[x]
		if n.holder == unused {
			continue
		}
		if x >= f.m.N {
			used++
			isBlossomSound(t, f, n, x)
		}
		if n.holder == none {
			isTopSound(t, f, x)
		}
	}
	if used+len(f.spare) != f.m.N/2 {
		t.Fatalf("%v: %d blossoms and %d spare numbers", f.m, used, len(f.spare))
	}
}

// holders is a vertex and the blossoms that it is in, from within.
func holders(f *forest, v int) []int {
	chain := []int{v}
	for f.nodes[v].holder != none {
		v = f.nodes[v].holder
		chain = append(chain, v)
	}
	return chain
}

// rest is how much more than needed the numbers of the cheapest edge between two vertices are, those of blossoms with them.
func rest(f *forest, u, v int) int64 {
	sum := f.y[u] + f.y[v] + 2*f.m.E[f.place[u][v]].W
	around := holders(f, v)
	for _, b := range holders(f, u) {
		if slices.Contains(around, b) {
			sum += f.nodes[b].z
		}
	}
	return sum
}

// isBlossomSound fails the test unless a blossom is a ring of an odd number of parts, its base's one first, then partners.
func isBlossomSound(t *testing.T, f *forest, n node, b int) {
	t.Helper()
	if len(n.parts) < 3 || len(n.parts)%2 == 0 || len(n.joins) != len(n.parts) || n.z < 0 || n.z%2 != 0 {
		t.Fatalf("%v: %+v", f.m, n)
	}
	if f.nodes[n.parts[0]].base != n.base {
		t.Fatalf("%v: %d is not the base of %+v", f.m, n.base, n)
	}
	for i, part := range n.parts {
		next := n.parts[(i+1)%len(n.parts)]
		l := n.joins[i]
		if f.nodes[part].holder != b || !slices.Contains(holders(f, l.from), part) || !slices.Contains(holders(f, l.to), next) {
			t.Fatalf("%v: %v does not join %d and %d in %+v", f.m, l, part, next, n)
		}
		if rest(f, l.from, l.to) != 0 || i%2 != 0 && f.mate[l.from] != l.to {
			t.Fatalf("%v: %v in %+v", f.m, l, n)
		}
	}
}

// isTopSound fails the test unless an outermost node has come by an edge without slack, and knows its nearest edge.
func isTopSound(t *testing.T, f *forest, x int) {
	t.Helper()
	n := f.nodes[x]
	if n.via.isThere() && (f.top[n.via.to] != x || rest(f, n.via.from, n.via.to) != 0) {
		t.Fatalf("%v: %d came by %v", f.m, x, n.via)
	}
	if n.side == inner {
		return
	}
	least := int64(endless)
	for u := range f.m.N {
		for v := range f.m.N {
			if f.place[u][v] == none || f.top[u] == x || f.top[v] != x || f.nodes[f.top[u]].side != outer {
				continue
			}
			least = min(least, rest(f, u, v))
			if n.side == outer && rest(f, u, v)%2 != 0 {
				t.Fatalf("%v: the slack between the outer vertices %d and %d is odd", f.m, u, v)
			}
		}
	}
	if n.nearest.isThere() != (least < endless) || n.nearest.isThere() && f.slack(n.nearest) != least {
		t.Fatalf("%v: the nearest edge of %d is %v, not one of slack %d", f.m, x, n.nearest, least)
	}
}
