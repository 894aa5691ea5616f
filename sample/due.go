package sample

import (
	"slices"

	"louvre/api"
	"louvre/cycle"
	"louvre/deps"
	"louvre/reach"
	"louvre/rect"
)

// Due returns the cells that are evaluated after a range of a book was written, in their order.
func Due(b api.Book, r api.Rect) []api.Ref {
	g, _ := deps.New(b.Entries...)
	circular, _ := cycle.Circular(g)
	above, _ := reach.Above(g, r)
	var l []api.Ref
	for _, at := range g.Formulas() {
		if (rect.Has(r, at) || slices.Contains(above, at)) && !slices.Contains(circular, at) {
			l = append(l, at)
		}
	}
	l, _ = cycle.Among(g, l...)
	return l
}
