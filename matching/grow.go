package matching

import "math"

// endless is how far numbers may move that nothing holds.
const endless = math.MaxInt64

// augment makes the matching greater by one edge. It answers false, if no matching is greater.
func (f *forest) augment() bool {
	f.plant()
	for {
		x, far := f.next()
		if x == none {
			return false
		}
		f.move(far)
		if f.reach(x) {
			return true
		}
	}
}

// reach does what happens at a node when the numbers have moved as far as it lets them. It answers true, if that made the matching
// greater.
func (f *forest) reach(x int) bool {
	switch f.nodes[x].side {
	case free:
		f.grow(x)
	case inner:
		f.open(x)
	case outer:
		return f.meet(x)
	}
	return false
}

// plant makes each node without a partner the root of a tree, and there is nothing else in the trees.
func (f *forest) plant() {
	for x := range f.nodes {
		f.nodes[x].side, f.nodes[x].via, f.nodes[x].nearest = free, missing(), missing()
	}
	for x := range len(f.nodes) {
		if f.isTop(x) && f.mate[f.nodes[x].base] == none {
			f.lead(x)
		}
	}
}

// lead makes a node an outer one, which offers its edges to all others.
func (f *forest) lead(x int) {
	f.nodes[x].side = outer
	for other := range len(f.nodes) {
		if other != x && f.isTop(other) {
			f.offer(other, f.best[x][other])
		}
	}
}

// follow finds the nearest edge of a node that has just become an outermost one.
func (f *forest) follow(x int) {
	for other := range len(f.nodes) {
		if other != x && f.isTop(other) && f.nodes[other].side == outer {
			f.offer(x, f.best[other][x])
		}
	}
}

// next is the node at which something happens first when the numbers move, and how far they move till then.
func (f *forest) next() (x int, far int64) {
	x, far = none, endless
	for other := range len(f.nodes) {
		if !f.isTop(other) {
			continue
		}
		if room := f.room(other); room < far {
			x, far = other, room
		}
	}
	return x, far
}

// room is how far the numbers may move till something happens at a node: its nearest edge has no slack any more, or its Z is 0.
func (f *forest) room(x int) int64 {
	n := f.nodes[x]
	moving := int64(1)
	switch n.side {
	case outer: // both ends of its nearest edge move towards each other
		moving++
		fallthrough
	case free:
		if n.nearest.isThere() {
			return f.slack(n.nearest) / moving
		}
	case inner:
		if len(n.parts) > 0 {
			return n.z / 2
		}
	}
	return endless
}

// move moves the numbers: edges within trees and within blossoms keep their slack.
func (f *forest) move(far int64) {
	for v := range f.m.N {
		switch f.nodes[f.top[v]].side {
		case outer:
			f.y[v] -= far
		case inner:
			f.y[v] += far
		}
	}
	for x := f.m.N; x < len(f.nodes); x++ {
		if !f.isTop(x) {
			continue
		}
		switch f.nodes[x].side {
		case outer:
			f.nodes[x].z += 2 * far
		case inner:
			f.nodes[x].z -= 2 * far
		}
	}
}

// grow takes a free node into the tree that its nearest edge comes from, and its partner behind it.
func (f *forest) grow(x int) {
	f.nodes[x].side, f.nodes[x].via = inner, f.nodes[x].nearest
	base := f.nodes[x].base
	partner := f.mate[base]
	next := f.top[partner]
	f.nodes[next].via = link{base, partner}
	f.lead(next)
}

// meet goes over the edge from an outer node to another one. Between two trees it makes the matching greater, and answers true;
// within one it closes a ring.
func (f *forest) meet(x int) bool {
	l := f.nodes[x].nearest
	root := f.common(f.top[l.from], x)
	if root != none {
		f.contract(l, root)
		return false
	}
	f.flip(l.from, l.to)
	f.flip(l.to, l.from)
	return true
}

// common is the first outer node on the ways from two others to their roots that is on both.
func (f *forest) common(x, y int) int {
	seen := make([]bool, len(f.nodes))
	for ; x != none; x = f.above(x) {
		seen[x] = true
	}
	for y != none && !seen[y] {
		y = f.above(y)
	}
	return y
}

// above is the next outer node on the way from an outer one to its root.
func (f *forest) above(x int) int {
	up := f.nodes[x].via
	if !up.isThere() {
		return none
	}
	return f.top[f.nodes[f.top[up.from]].via.from]
}

// flip gives v, in an outer node, a new partner, and goes on with those who lose theirs, up to the root.
func (f *forest) flip(v, partner int) {
	for {
		up := f.nodes[f.top[v]].via
		f.rebase(f.top[v], v)
		f.mate[v] = partner
		if !up.isThere() {
			return
		}
		x := f.top[up.from]
		into := f.nodes[x].via
		f.rebase(x, into.to)
		f.mate[into.to] = into.from
		v, partner = into.from, into.to
	}
}
