package colour

import "slices"

// painter gives colours to vertices, one after the other.
type painter struct {
	colours []int // -1: the vertex has none yet
	takers  []int // of each colour the last vertex that could not have it
}

// newPainter has n vertices, none of which will need more than so many colours.
func newPainter(n, most int) *painter {
	return &painter{slices.Repeat([]int{-1}, n), slices.Repeat([]int{-1}, most)}
}

// paint gives a vertex the least colour that none of these neighbours has.
func (p *painter) paint(v int, near []int) {
	for _, u := range near {
		if c := p.colours[u]; c >= 0 {
			// Marks bear the vertex's own number, so that none need be wiped off ahead of the next one.
			p.takers[c] = v
		}
	}
	p.colours[v] = slices.IndexFunc(p.takers, func(taker int) bool { return taker != v })
}
