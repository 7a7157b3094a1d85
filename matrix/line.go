package matrix

import (
	"cmp"
	"slices"

	"filigree/api"
	"filigree/integer"
)

// cell is a number that is not 0, and its column.
type cell struct {
	at     int
	number api.Int
}

// cellsOf is those numbers of a row that are not 0, normal and in memory of their own.
func cellsOf(row []api.Int) []cell {
	var cells []cell
	for at, number := range row {
		if own := integer.Norm(number); len(own.Mag) > 0 {
			cells = append(cells, cell{at, own})
		}
	}
	return cells
}

// numberAt is the number in a column, 0 if there is no cell.
func numberAt(cells []cell, column int) api.Int {
	place, there := slices.BinarySearchFunc(cells, column, func(c cell, column int) int { return cmp.Compare(c.at, column) })
	if !there {
		return api.Int{}
	}
	return cells[place].number
}

// without is the cells that stand in none of these columns.
func without(cells []cell, columns ...int) []cell {
	var rest []cell
	for _, c := range cells {
		if !slices.Contains(columns, c.at) {
			rest = append(rest, c)
		}
	}
	return rest
}

// times is each cell times a number.
func times(cells []cell, by api.Int) []cell {
	if len(by.Mag) == 0 {
		return nil
	}
	products := make([]cell, len(cells))
	for i, c := range cells {
		products[i] = cell{c.at, integer.Mul(c.number, by)}
	}
	return products
}

// over is each cell by a number that divides it.
func over(cells []cell, by api.Int) []cell {
	quotients := make([]cell, len(cells))
	for i, c := range cells {
		quotient, _ := integer.Exact(c.number, by)
		quotients[i] = cell{c.at, quotient}
	}
	return quotients
}

// plus is the sums, column by column, that are not 0.
func plus(a, b []cell) []cell {
	sums := make([]cell, 0, len(a)+len(b))
	for len(a) > 0 && len(b) > 0 {
		switch {
		case a[0].at < b[0].at:
			sums, a = append(sums, a[0]), a[1:]
		case a[0].at > b[0].at:
			sums, b = append(sums, b[0]), b[1:]
		default:
			if sum := integer.Add(a[0].number, b[0].number); len(sum.Mag) > 0 {
				sums = append(sums, cell{a[0].at, sum})
			}
			a, b = a[1:], b[1:]
		}
	}
	return append(append(sums, a...), b...)
}

// columnsOf is the columns of the cells of both, each once, rising.
func columnsOf(a, b []cell) []int {
	columns := make([]int, 0, len(a)+len(b))
	for _, c := range a {
		columns = append(columns, c.at)
	}
	for _, c := range b {
		columns = append(columns, c.at)
	}
	slices.Sort(columns)
	return slices.Compact(columns)
}
