package planar

import (
	"cmp"
	"slices"

	"filigree/api"
	"filigree/graph"
	"filigree/kuratowski"
	"filigree/parts"
)

// piece is some of a graph's edges as a graph of their own.
type piece struct {
	g      api.Graph
	places []int // which edges of the whole graph its own ones are, rising
}

// only is these of a piece's edges, told by their places in it, rising.
func (p piece) only(in []int) piece {
	return piece{cutter(p.g)(in).g, picked(p.places, in)}
}

// witness is the places of a witness, rising, among the edges of a block that cannot be drawn. First an edge is found
// without which a block can be drawn, but not with it; then the few ways of the block that hinder that edge. Of these as
// many are left out as can be: what cannot do without any edge is a subdivision of K5 or K3,3, as Kuratowski has shown.
func witness(g api.Graph, bad []int) []int {
	p := piece{cutter(g)(bad).g, bad}
	p, edge := p.nearlyDrawn()
	p, edge = p.inOneBlock(edge)
	p = p.hindering(edge)
	return picked(p.places, thinned(p.g))
}

// nearlyDrawn is a block, of some of the edges of one that cannot be drawn, that cannot be drawn either, and the place of
// an edge without which it can. The edges along which the block was walked stay. The others come one by one, first those
// that lead back least far: so what cannot be drawn shows in a small block.
func (p piece) nearlyDrawn() (piece, int) {
	t := walked(graph.Near(p.g))
	numbers := make([]int, p.g.N)
	for number, v := range t.names {
		numbers[v] = number
	}
	var stay, others []int
	leadsTo := make([]int, len(p.g.E))
	for place, e := range p.g.E {
		u, v := numbers[e.U], numbers[e.V]
		leadsTo[place] = min(u, v)
		if t.up[max(u, v)] == min(u, v) {
			stay = append(stay, place)
		} else {
			others = append(others, place)
		}
	}
	slices.SortStableFunc(others, func(a, b int) int { return cmp.Compare(leadsTo[b], leadsTo[a]) })
	// These, with the ones that stay, are one more than a graph in the plane can have.
	others = others[:min(len(others), 2*p.g.N-4)]
	bad := func(count int) []int { return badAmong(p.g, rising(stay, others[:count])) }
	count := fewest(len(others), func(count int) bool { return len(bad(count)) > 0 })
	in := bad(count)
	return p.only(in), slices.Index(in, others[count-1])
}

// inOneBlock is so much of a block that it can be drawn without the way over this edge, but not with it, and that without
// the way one block is left. What is left without the way is a row of blocks, from one end of the way to the other. It is
// one of them that cannot be drawn together with a way around it.
func (p piece) inOneBlock(edge int) (piece, int) {
	way, u, v := wayOver(p.g, edge)
	rest := less(places(p.g), way)
	h := some(p.g, rest)
	row := wayBack(reached(graph.Near(h), u, func(int) bool { return false }), v)
	around := slices.Concat(way, placer(p.g)(row))
	blocks := parts.Blocks(h)
	with := func(blocks [][]int) []int { return rising(around, picked(rest, slices.Concat(blocks...))) }
	count := fewest(len(blocks), func(count int) bool { return len(badAmong(p.g, with(blocks[:count]))) > 0 })
	in := with(blocks[count-1 : count])
	return p.only(in), slices.Index(in, edge)
}

// hindering is a few ways that cannot be drawn together, one of them over this edge. Without that one a block is left that
// can be drawn.
func (p piece) hindering(edge int) piece {
	in, u, v := wayOver(p.g, edge)
	place := placer(p.g)
	for _, list := range hindrance(some(p.g, less(places(p.g), in)), u, v) {
		in = rising(in, place(list))
	}
	return p.only(in)
}

// thinned is the places of a witness, rising, in a graph that cannot be drawn and each of whose edges is on a way. Ways are
// left out as a whole: without one of its edges what is left of a way leads nowhere. None need be tried again, since what
// more edges cannot do without, fewer cannot.
func thinned(g api.Graph) []int {
	in := places(g)
	ways, _ := kuratowski.Ways(g, in)
	place := placer(g)
	for _, way := range ways {
		if bad := badAmong(g, less(in, place(way))); len(bad) > 0 {
			in = bad
		}
	}
	return in
}

// wayOver is the places of the edges of the way that an edge is on, and the way's ends. Each edge is on one.
func wayOver(g api.Graph, edge int) (in []int, u, v int) {
	ways, _ := kuratowski.Ways(g, places(g))
	place := placer(g)
	for _, way := range ways {
		in, u, v = place(way), way[0], way[len(way)-1]
		if slices.Contains(in, edge) {
			break
		}
	}
	return in, u, v
}

// badAmong is the places of a block, rising, that cannot be drawn, of these of a graph's edges alone, told by their places,
// rising; none: they can be drawn.
func badAmong(g api.Graph, in []int) []int {
	return picked(in, undrawable(some(g, in)))
}
