package matrix

import (
	"filigree/api"
	"filigree/integer"
)

// line is the cells of a row, rising by their columns, as they stand after some of the steps. A step that adds nothing to a row only
// multiplies it by the new pivot and divides it by the one before. That is put off until the row is needed: with many noughts most steps
// do no more to most rows.
type line struct {
	cells []cell
	after int // how many steps
}

// elimination takes rows out of a matrix by steps that are free of fractions. After some of them what stands in a row and a column is
// the determinant of what the taken rows and this one have in the taken columns and this one (of pairs of rows: their Pfaffian). So it is
// a whole number, and what a step divides by divides it.
type elimination struct {
	lines  []line
	taken  []bool    // of each row
	pivots []api.Int // 1, and behind it what stood where each step took hold
}

// begun is an elimination of no step.
func begun(m [][]api.Int) *elimination {
	e := &elimination{taken: make([]bool, len(m)), pivots: []api.Int{integer.Of(1)}}
	for _, row := range m {
		e.lines = append(e.lines, line{cells: cellsOf(row)})
	}
	return e
}

// pivot is the last pivot.
func (e *elimination) pivot() api.Int { return e.pivots[len(e.pivots)-1] }

// shortest is the row that is not taken with the fewest cells: few cells make few new ones. There must be one.
func (e *elimination) shortest() int {
	best := -1
	for i, l := range e.lines {
		if !e.taken[i] && (best < 0 || len(l.cells) < len(e.lines[best].cells)) {
			best = i
		}
	}
	return best
}

// shortestBeside is, of the columns in which a row has cells, the one whose row has the fewest.
func (e *elimination) shortestBeside(i int) int {
	best := e.lines[i].cells[0].at
	for _, c := range e.lines[i].cells {
		if len(e.lines[c.at].cells) < len(e.lines[best].cells) {
			best = c.at
		}
	}
	return best
}

// rarest is, of the columns in which a row has cells, the one in which the fewest other rows have any.
func (e *elimination) rarest(i int) int {
	count := make([]int, len(e.lines))
	for h, l := range e.lines {
		for _, c := range l.cells {
			if !e.taken[h] {
				count[c.at]++
			}
		}
	}
	best := e.lines[i].cells[0].at
	for _, c := range e.lines[i].cells {
		if count[c.at] < count[best] {
			best = c.at
		}
	}
	return best
}

// takeRow takes row i out, and from each other one as much of it as makes its number in column j 0.
func (e *elimination) takeRow(i, j int) {
	own := e.upToNow(i)
	pivot, own := numberAt(own, j), without(own, j)
	e.taken[i] = true
	for h, l := range e.lines {
		if by := numberAt(l.cells, j); !e.taken[h] && len(by.Mag) > 0 {
			e.change(h, pivot, without(l.cells, j), times(own, integer.Neg(by)))
		}
	}
	e.pivots = append(e.pivots, pivot)
}

// takePair takes rows a and b of a skew matrix out, and from each other one as much of both as makes its numbers in columns a and b 0:
// what is left is skew.
func (e *elimination) takePair(a, b int) {
	ownA, ownB := e.upToNow(a), e.upToNow(b)
	pivot := numberAt(ownA, b)
	ownA, ownB = without(ownA, b), without(ownB, a)
	e.taken[a], e.taken[b] = true, true
	for _, h := range columnsOf(ownA, ownB) {
		cells := e.lines[h].cells
		byA, byB := numberAt(cells, a), numberAt(cells, b)
		e.change(h, pivot, without(cells, a, b), plus(times(ownB, byA), times(ownA, integer.Neg(byB))))
	}
	e.pivots = append(e.pivots, pivot)
}

// upToNow is the cells of a row as they stand after all steps.
func (e *elimination) upToNow(i int) []cell {
	l := e.lines[i]
	return over(times(l.cells, e.pivot()), e.pivots[l.after])
}

// change makes the step whose pivot this is of a row that keeps some of its cells, and to which something is added. A row that is behind
// by some steps is so by the same factor in both, hence what it is behind to, and not the last pivot, is all to divide by.
func (e *elimination) change(h int, pivot api.Int, kept, added []cell) {
	l := &e.lines[h]
	if len(added) == 0 {
		l.cells = kept
		return
	}
	l.cells = over(plus(times(kept, pivot), added), e.pivots[l.after])
	l.after = len(e.pivots)
}
