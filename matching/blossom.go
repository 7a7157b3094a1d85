package matching

import "slices"

// each hands out the vertices of a node.
func (f *forest) each(x int, with func(v int)) {
	if x < f.m.N {
		with(x)
		return
	}
	for _, part := range f.nodes[x].parts {
		f.each(part, with)
	}
}

// contract makes a blossom of the ring that an edge between two outer nodes closes, with the root of both.
func (f *forest) contract(l link, root int) {
	last := len(f.spare) - 1
	b := f.spare[last]
	f.spare = f.spare[:last]
	parts, joins := f.round(l, root)
	f.nodes[b] = node{via: f.nodes[root].via, nearest: missing(), holder: none, base: f.nodes[root].base, parts: parts, joins: joins}
	for _, part := range parts {
		f.nodes[part].holder = b
	}
	f.each(b, func(v int) { f.top[v] = b })
	f.gather(b)
	f.lead(b)
	f.follow(b)
}

// round is the nodes of the ring that an edge closes, from the root on, and of each the edge to the next one.
func (f *forest) round(l link, root int) (parts []int, joins []link) {
	climb := func(x int, with func(up link)) {
		for x != root {
			up := f.nodes[x].via
			parts = append(parts, x)
			with(up)
			x = f.top[up.from]
		}
	}
	climb(f.top[l.from], func(up link) { joins = append(joins, up) })
	parts = append(parts, root)
	slices.Reverse(parts)
	slices.Reverse(joins)
	joins = append(joins, l)
	climb(f.top[l.to], func(up link) { joins = append(joins, up.turned()) })
	return parts, joins
}

// gather finds the best edges between a new blossom and all nodes, out of those of its parts. Which one is best stays so, as all
// vertices of a node move together. (Between nodes of which one has the other it finds something that nobody asks for.)
func (f *forest) gather(b int) {
	row := slices.Repeat([]link{missing()}, len(f.nodes))
	for _, part := range f.nodes[b].parts {
		for x, l := range f.best[part] {
			if f.isBetter(l, row[x]) {
				row[x] = l
			}
		}
	}
	f.best[b] = row
	for x, l := range row {
		f.best[x][b] = l.turned()
	}
}

// open takes an inner blossom apart. The parts between the edge that comes into it and its base stay in the tree.
func (f *forest) open(b int) {
	old := f.nodes[b]
	f.retire(b)
	for _, part := range old.parts {
		n := &f.nodes[part]
		n.side, n.via, n.nearest, n.holder = free, missing(), missing(), none
		f.each(part, func(v int) { f.top[v] = part })
	}
	f.thread(old)
	for _, part := range old.parts {
		if f.nodes[part].side == outer {
			f.lead(part)
		}
	}
	for _, part := range old.parts {
		f.follow(part)
	}
}

// thread gives the parts of a blossom that was opened their sides: from the edge that comes into it to its base, over an even
// number of edges, each second part is an inner one.
func (f *forest) thread(old node) {
	parts, links := old.path(slices.Index(old.parts, f.top[old.via.to]))
	via := old.via
	for i, part := range parts {
		f.nodes[part].side, f.nodes[part].via = inner, via
		if i%2 != 0 {
			f.nodes[part].side = outer
		}
		if i < len(links) {
			via = links[i]
		}
	}
}

// path is the parts of a blossom from the one at this place to the base's one, and the edges between them, whose number is even:
// so the first edge is one between partners.
func (n node) path(place int) (parts []int, links []link) {
	if place%2 != 0 {
		return append(slices.Clone(n.parts[place:]), n.parts[0]), n.joins[place:]
	}
	for at := place; at > 0; at-- {
		parts = append(parts, n.parts[at])
		links = append(links, n.joins[at-1].turned())
	}
	return append(parts, n.parts[0]), links
}

// rebase makes v the base of a node that has it: all other vertices of the node get partners within it.
func (f *forest) rebase(x, v int) {
	n := &f.nodes[x]
	if n.base == v {
		return
	}
	part := v
	for f.nodes[part].holder != x {
		part = f.nodes[part].holder
	}
	place := slices.Index(n.parts, part)
	n.base = v
	n.parts = slices.Concat(n.parts[place:], n.parts[:place])
	n.joins = slices.Concat(n.joins[place:], n.joins[:place])
	f.rebase(part, v)
	for i := 1; i < len(n.parts); i += 2 {
		l := n.joins[i]
		f.rebase(n.parts[i], l.from)
		f.rebase(n.parts[i+1], l.to)
		f.mate[l.from], f.mate[l.to] = l.to, l.from
	}
}
