package planar

import "slices"

// corner is a vertex of a face. A face is a list of corners that closes; in a block no vertex is there twice.
type corner struct {
	at, face      int
	ahead, behind int   // the corners next to it in the list
	waiting       []int // the parts that touch the vertex and fit into the face; there may be some that no longer do
}

// seam is where a way was drawn: the face that it was drawn through, the one that it split off, and the corners of its two
// ends in either.
type seam struct {
	old, fresh int
	at, fellow [2]int
}

// begin draws a closed way. All its vertices are on both of its sides; each edge is gone along once in either direction.
func (d *drawing) begin(round []int) {
	for side := range 2 {
		list := d.line(round, side)
		for i, v := range round {
			d.spots[v][side] = list[i]
		}
		if side == 1 {
			slices.Reverse(list)
		}
		d.join(append(list, list[0]))
	}
	d.faces = 2
}

// line makes a corner of a face for each of these vertices.
func (d *drawing) line(vertices []int, face int) []int {
	list := make([]int, len(vertices))
	for i, v := range vertices {
		list[i] = len(d.corners)
		d.corners = append(d.corners, corner{at: v, face: face})
	}
	return list
}

// join puts each of these corners behind the one ahead of it.
func (d *drawing) join(list []int) {
	for i, c := range list[1:] {
		d.corners[list[i]].behind, d.corners[c].ahead = c, list[i]
	}
}

// shorter is the corners between a and b on the shorter side, which is the one from b on to a, if it is turned. Both sides
// are gone along at once, so that the longer one is not gone along to its end.
func (d *drawing) shorter(a, b int) (between []int, turned bool) {
	var there, back []int
	c, e := d.corners[a].behind, d.corners[b].behind
	for c != b && e != a {
		there, back = append(there, c), append(back, e)
		c, e = d.corners[c].behind, d.corners[e].behind
	}
	if c == b {
		return there, false
	}
	return back, true
}

// split draws a way through a face, from its corner a to its corner b. The shorter side becomes a face of its own, and the
// longer one stays the face that it was: so corners, and the parts that wait there, seldom change faces.
func (d *drawing) split(way []int, a, b int) seam {
	between, turned := d.shorter(a, b)
	if turned {
		a, b, way = b, a, slices.Clone(way)
		slices.Reverse(way)
	}
	old, fresh, last := d.corners[a].face, d.faces, len(way)-1
	d.faces++
	here := slices.Concat([]int{a}, d.line(way[1:last], old), []int{b})
	there := d.line(way, fresh)
	for i, v := range way {
		d.spots[v] = [2]int{here[i], there[i]}
	}
	s := seam{old, fresh, [2]int{a, b}, [2]int{there[0], there[last]}}
	slices.Reverse(there)
	d.join(here)
	d.join(slices.Concat(there, between, there[:1]))
	for _, c := range between {
		d.corners[c].face = fresh
	}
	for _, c := range between {
		d.corners[c].waiting = slices.DeleteFunc(d.corners[c].waiting, func(p int) bool { return !d.follows(p, s) })
	}
	d.share(s)
	return s
}

// follows tells whether a part that touches a vertex which is now of the fresh face alone fits into that face. Into the
// old one it no longer does.
func (d *drawing) follows(p int, s seam) bool {
	q := &d.parts[p]
	if len(q.left) == 0 {
		return false
	}
	at := q.roomIn(s.old)
	if at < 0 {
		return q.roomIn(s.fresh) >= 0
	}
	corners := q.rooms[at].corners
	isElsewhere := func(c int) bool { return d.corners[c].face != s.fresh && !slices.Contains(s.at[:], c) }
	if slices.ContainsFunc(corners, isElsewhere) {
		q.rooms = slices.Delete(q.rooms, at, at+1)
		d.file(p)
		return false
	}
	q.rooms[at].face = s.fresh
	for i, c := range corners {
		if end := slices.Index(s.at[:], c); end >= 0 {
			corners[i] = s.fellow[end]
			d.corners[corners[i]].waiting = append(d.corners[corners[i]].waiting, p)
		}
	}
	return true
}

// share gives the part that touches just the two ends of a seam a room on the fresh side, too: it fits into each face that
// both are on.
func (d *drawing) share(s seam) {
	ends, corners := [2]int{d.corners[s.at[0]].at, d.corners[s.at[1]].at}, s.fellow
	if ends[0] > ends[1] {
		slices.Reverse(ends[:])
		slices.Reverse(corners[:])
	}
	if p, there := d.pairs[ends]; there {
		d.open(p, slices.Clone(corners[:]))
	}
}

// note tells the spots of the ends of a part that a way was drawn through, where the part had these corners. Those of the
// way's own vertices are known.
func (d *drawing) note(ends, corners []int, s seam) {
	for i, c := range corners {
		switch {
		case slices.Contains(s.at[:], c):
		case d.corners[c].face == s.fresh:
			d.spots[ends[i]] = [2]int{-1, c}
		default:
			d.spots[ends[i]] = [2]int{c, -1}
		}
	}
}
