package flow

import (
	"iter"
	"math"
	"slices"

	"louvre/acl"
	"louvre/api"
	"louvre/deps"
	"louvre/grant"
	"louvre/rect"
	"louvre/region"
)

// labels is the labels of all formula cells, and what was found out on the way.
type labels struct {
	g       *deps.Graph
	rules   []api.Rule
	grants  []api.Grant
	of      map[api.Ref]uint64
	readers map[api.Rect]uint64  // of all addresses of a range
	to      map[aggregate]uint64 // to whom the calls are released
}

// aggregate is a function over a range.
type aggregate struct {
	fn   uint8
	rect api.Rect
}

// use is a range that a cell uses, and the users to whom this use is released.
type use struct {
	rect api.Rect
	free uint64
}

// link is a formula cell that uses another one, and the users to whom all its uses of that one are released.
type link struct {
	by, at api.Ref
	free   uint64
}

// newLabels computes the labels of all formula cells.
func newLabels(g *deps.Graph, rules []api.Rule, grants []api.Grant) *labels {
	l := &labels{g: g, rules: rules, grants: grants, of: map[api.Ref]uint64{}, readers: map[api.Rect]uint64{}, to: map[aggregate]uint64{}}
	for _, at := range g.Formulas() {
		rights, _ := acl.At(at, rules...)
		l.of[at] = rights.Read
		for u := range l.uses(at) {
			l.of[at] &= l.readersOf(u.rect) | u.free
		}
	}
	links := l.links()
	var open []link
	for _, at := range g.Formulas() {
		open = append(open, links[at]...)
	}
	// Labels only shrink: who does not see a cell does not see those that use it, unless all these uses are released.
users:
	for len(open) > 0 {
		x := open[0]
		open = open[1:]
		seen := l.of[x.by] & (l.of[x.at] | x.free)
		if seen == l.of[x.by] {
			continue users
		}
		l.of[x.by] = seen
		open = append(open, links[x.by]...)
	}
	return l
}

// links returns for each formula cell the formula cells that use it.
func (l *labels) links() map[api.Ref][]link {
	links := map[api.Ref][]link{}
	var by api.Ref
	var uses []use // of by; the edges of a cell follow each other
	for _, e := range l.g.Edges() {
		if e[0] != by {
			by = e[0]
			uses = slices.Collect(l.uses(by))
		}
		x := link{by: by, at: e[1], free: math.MaxUint64}
		for _, u := range uses {
			if rect.Has(u.rect, x.at) {
				x.free &= u.free
			}
		}
		links[x.at] = append(links[x.at], x)
	}
	return links
}

// uses yields the uses of a cell.
func (l *labels) uses(at api.Ref) iter.Seq[use] {
	return func(yield func(use) bool) {
		for _, u := range l.g.Uses(at) {
			if !yield(use{u.Rect, l.released(u)}) {
				return
			}
		}
	}
}

// released returns the users to whom a use is released.
func (l *labels) released(u api.Use) uint64 {
	if u.Fn == 0 {
		return 0
	}
	a := aggregate{u.Fn, u.Rect}
	to, ok := l.to[a]
	if !ok {
		to, _, _ = grant.For(u.Fn, u.Rect, l.rules, l.grants)
		l.to[a] = to
	}
	return to
}

// readersOf returns the users who may read all addresses of a range.
func (l *labels) readersOf(r api.Rect) uint64 {
	read, ok := l.readers[r]
	if !ok {
		over, _ := region.Over(r, l.rules...)
		read = over.Read
		l.readers[r] = read
	}
	return read
}

// over returns the users who see every address of a range.
func (l *labels) over(r api.Rect) uint64 {
	seen := l.readersOf(r)
	for at, label := range l.of {
		if rect.Has(r, at) {
			seen &= label
		}
	}
	return seen
}
