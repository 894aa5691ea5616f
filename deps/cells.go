package deps

import (
	"slices"

	"louvre/api"
)

// cells is cells row by row, and the same ones with columns and rows exchanged, so that those of a tall range are found as fast as those of a wide one.
type cells struct {
	byRows, exchanged []api.Ref
}

// newCells returns the cells that are given row by row.
func newCells(byRows []api.Ref) cells {
	c := cells{byRows: byRows}
	for _, at := range byRows {
		c.exchanged = append(c.exchanged, exchange(at))
	}
	slices.SortFunc(c.exchanged, order)
	return c
}

// in returns the cells that are in a range, in no order.
func (c cells) in(r api.Rect) []api.Ref {
	if r.R2-r.R1 <= r.C2-r.C1 {
		return within(r, c.byRows)
	}
	l := within(api.Rect{C1: r.R1, R1: r.C1, C2: r.R2, R2: r.C2}, c.exchanged)
	for i, at := range l {
		l[i] = exchange(at)
	}
	return l
}

// exchange exchanges the column and the row of an address.
func exchange(at api.Ref) api.Ref {
	return api.Ref{Col: at.Row, Row: at.Col}
}

// within returns those of the cells, which are given row by row, that are in a range.
func within(r api.Rect, cells []api.Ref) []api.Ref {
	var l []api.Ref
	i := from(r.C1, r.R1, cells)
	for i < len(cells) && cells[i].Row <= r.R2 {
		switch at := cells[i]; {
		case at.Col < r.C1:
			i = from(r.C1, at.Row, cells)
		case at.Col > r.C2:
			i = from(r.C1, at.Row+1, cells)
		default:
			l = append(l, at)
			i++
		}
	}
	return l
}

// from returns the index of the first cell that does not come before an address.
func from(col, row int, cells []api.Ref) int {
	i, _ := slices.BinarySearchFunc(cells, api.Ref{Col: col, Row: row}, order)
	return i
}
