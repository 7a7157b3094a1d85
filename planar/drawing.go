package planar

import (
	"slices"

	"filigree/api"
)

// drawing is what is drawn so far of a block. It grows by ways, each of them drawn through a face from one of its vertices
// to another. Vertices are told by their numbers in the tree.
type drawing struct {
	tree    *tree
	corners []corner
	faces   int // how many there are
	parts   []part
	// Of two vertices the part that touches just these two, as long as something is left of it.
	pairs map[[2]int]int
	// The parts that fitted into one face when they were filed, and those that fitted into more.
	few, many []int
	// Of the vertices that a part beside the newest way may touch: their corners on either side of it; -1: none.
	spots [][2]int
	stuck bool // a part fits into no face
}

// part is what hangs together of the rest, and touches what is drawn. If it touches two vertices only, it is all that
// touches just these two: that fits into the same faces.
type part struct {
	ends  []int      // the vertices that it touches, rising
	rooms []room     // the faces that it fits into: all its ends are on them
	left  []api.Dart // what is left to be drawn of it
}

// room is a face that a part fits into, and the corners of the part's ends there.
type room struct {
	face    int
	corners []int
}

// roomIn is where in a part's rooms a face stands; -1: it doesn't. The newer ones are asked for more often.
func (p *part) roomIn(face int) int {
	for i, r := range slices.Backward(p.rooms) {
		if r.face == face {
			return i
		}
	}
	return -1
}

// grow draws the whole block; false: it cannot be drawn. No choice need ever be undone: what fits into one face only must
// go there, and if each part fits into two faces or more, then each can go into any of its faces.
func (d *drawing) grow() bool {
	way := d.tree.way(api.Dart{U: 0, V: 1})
	d.begin(way[:len(way)-1])
	d.tree.beside(way, d.add)
	for !d.stuck {
		p, there := d.next()
		if !there {
			return true
		}
		d.place(p)
	}
	return false
}

// next is a part that fits into the fewest faces: into one, if there is such a part; else any. false: nothing is left.
func (d *drawing) next() (int, bool) {
	for len(d.few) > 0 {
		p := d.few[len(d.few)-1]
		d.few = d.few[:len(d.few)-1]
		switch {
		case len(d.parts[p].left) == 0:
			continue
		case len(d.parts[p].rooms) == 1:
			return p, true
		}
		// A face that it fits into was split since, and it fits into both sides.
		d.many = append(d.many, p)
	}
	for len(d.many) > 0 {
		p := d.many[len(d.many)-1]
		d.many = d.many[:len(d.many)-1]
		if len(d.parts[p].left) > 0 {
			return p, true
		}
	}
	return 0, false
}

// place draws a way through a part, in a face that the part fits into. What the way leaves becomes new parts.
func (d *drawing) place(p int) {
	q := &d.parts[p]
	last := len(q.left) - 1
	way := d.tree.way(q.left[last])
	q.left = q.left[:last]
	if last == 0 && len(q.ends) == 2 {
		delete(d.pairs, [2]int(q.ends))
	}
	ends, corners := q.ends, q.rooms[len(q.rooms)-1].corners
	s := d.split(way, corners[slices.Index(ends, way[0])], corners[slices.Index(ends, way[len(way)-1])])
	d.note(ends, corners, s)
	d.file(p)
	d.tree.beside(way, d.add)
}

// add makes a part of what a dart stands for. The spots of all that it touches are known.
func (d *drawing) add(dart api.Dart) {
	p, ends := len(d.parts), d.tree.ends(dart)
	if len(ends) == 2 {
		if twin, there := d.pairs[[2]int(ends)]; there {
			d.parts[twin].left = append(d.parts[twin].left, dart)
			return
		}
		d.pairs[[2]int(ends)] = p
	}
	d.parts = append(d.parts, part{ends: ends, left: []api.Dart{dart}})
	for side := range 2 {
		corners := make([]int, len(ends))
		for i, end := range ends {
			corners[i] = d.spots[end][side]
		}
		if !slices.Contains(corners, -1) {
			d.open(p, corners)
		}
	}
	d.file(p)
}

// open gives a part one more room, at these corners of a face.
func (d *drawing) open(p int, corners []int) {
	d.parts[p].rooms = append(d.parts[p].rooms, room{d.corners[corners[0]].face, corners})
	for _, c := range corners {
		d.corners[c].waiting = append(d.corners[c].waiting, p)
	}
}

// file puts a part where next looks for it, by how many faces it fits into.
func (d *drawing) file(p int) {
	if len(d.parts[p].left) == 0 {
		return
	}
	switch len(d.parts[p].rooms) {
	case 0:
		d.stuck = true
	case 1:
		d.few = append(d.few, p)
	default:
		d.many = append(d.many, p)
	}
}

// orders is of each vertex of the block its neighbours, in the order in which they stand around it.
func (d *drawing) orders() [][]int {
	names := d.tree.names
	if len(names) == 2 {
		return [][]int{{1}, {0}}
	}
	behind := make(map[api.Dart]int, len(d.corners))
	first := make([]int, len(names))
	for _, c := range d.corners {
		from, to := d.corners[c.ahead].at, d.corners[c.behind].at
		behind[api.Dart{U: c.at, V: from}] = to
		first[c.at] = from
	}
	lists := make([][]int, len(names))
	for v, u := range first {
		list := []int{names[u]}
		for next := behind[api.Dart{U: v, V: u}]; next != u; next = behind[api.Dart{U: v, V: next}] {
			list = append(list, names[next])
		}
		lists[names[v]] = list
	}
	return lists
}
