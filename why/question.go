package why

import (
	"cmp"

	"louvre/acl"
	"louvre/api"
	"louvre/deps"
	"louvre/grant"
	"louvre/group"
	"louvre/rect"
	"louvre/region"
)

// question is why a user sees an address of a book, or does not.
type question struct {
	user  int
	at    api.Ref
	book  api.Book
	graph *deps.Graph
}

// reads reports whether the user may read an address.
func (q *question) reads(at api.Ref) bool {
	rights, _ := acl.At(at, q.book.Rules...)
	return group.Has(rights.Read, q.user)
}

// readsAll reports whether the user may read all addresses of a range.
func (q *question) readsAll(r api.Rect) bool {
	over, _ := region.Over(r, q.book.Rules...)
	return group.Has(over.Read, q.user)
}

// unread returns ranges that together have the addresses of a range which the user may not read, the least address first.
func (q *question) unread(r api.Rect) []api.Rect {
	parts, which, _ := region.Parts(r, q.book.Rules...)
	var l []api.Rect
	for i, p := range parts {
		if !group.Has(q.book.Rules[which[i]].Rights.Read, q.user) {
			l = append(l, p)
		}
	}
	return l
}

// released reports whether a use is the argument of a call that is released to the user.
func (q *question) released(u api.Use) bool {
	if u.Fn == 0 {
		return false
	}
	to, _, _ := grant.For(u.Fn, u.Rect, q.book.Rules, q.book.Grants)
	return group.Has(to, q.user)
}

// open returns the ranges of the open uses of a cell.
func (q *question) open(at api.Ref) []api.Rect {
	var l []api.Rect
	for _, u := range q.graph.Uses(at) {
		if !q.released(u) {
			l = append(l, u.Rect)
		}
	}
	return l
}

// opens reports whether an open use of a cell has an address.
func (q *question) opens(at, next api.Ref) bool {
	for _, r := range q.open(at) {
		if rect.Has(r, next) {
			return true
		}
	}
	return false
}

// links returns for each formula cell the formula cells that it uses openly, row by row.
func (q *question) links() map[api.Ref][]api.Ref {
	l := map[api.Ref][]api.Ref{}
	open := map[api.Ref][]api.Rect{}
	for _, at := range q.graph.Formulas() {
		open[at] = q.open(at)
	}
	for _, e := range q.graph.Edges() {
		for _, r := range open[e[0]] {
			if rect.Has(r, e[1]) {
				l[e[0]] = append(l[e[0]], e[1])
				break
			}
		}
	}
	return l
}

// below returns the address and the formula cells on ways from it.
func (q *question) below() map[api.Ref]bool {
	links := q.links()
	found := map[api.Ref]bool{q.at: true}
	for open := []api.Ref{q.at}; len(open) > 0; open = open[1:] {
		for _, at := range links[open[0]] {
			if !found[at] {
				found[at] = true
				open = append(open, at)
			}
		}
	}
	return found
}

// path returns the first one of the shortest ways that hide the address, which the user does not see.
func (q *question) path() []api.Ref {
	way := []api.Ref{q.at}
	if !q.reads(q.at) {
		return way
	}
	links := q.links()
	steps := q.distances(links)
	for at := q.at; steps[at] > 1; {
		n := steps[at] - 1
		for _, next := range links[at] {
			if steps[next] == n {
				at = next
				break
			}
		}
		way = append(way, at)
	}
	return append(way, q.leastUnread(way[len(way)-1]))
}

// distances returns how many steps of a way that hides it lead from a cell which the user may read: for all cells that are as near as the address, or nearer.
func (q *question) distances(links map[api.Ref][]api.Ref) map[api.Ref]int {
	users := map[api.Ref][]api.Ref{}
	steps := map[api.Ref]int{}
	var near []api.Ref
	for _, at := range q.graph.Formulas() {
		if !q.reads(at) {
			continue
		}
		for _, next := range links[at] {
			users[next] = append(users[next], at)
		}
		for _, r := range q.open(at) {
			if steps[at] == 0 && !q.readsAll(r) {
				steps[at] = 1
				near = append(near, at)
			}
		}
	}
search:
	for i := 0; i < len(near); i++ {
		if near[i] == q.at {
			break search
		}
		for _, at := range users[near[i]] {
			if steps[at] == 0 {
				steps[at] = steps[near[i]] + 1
				near = append(near, at)
			}
		}
	}
	return steps
}

// leastUnread returns the least address that a cell uses openly and the user may not read.
func (q *question) leastUnread(at api.Ref) api.Ref {
	var least api.Ref
	take := func(r api.Rect) {
		first := api.Ref{Col: r.C1, Row: r.R1}
		if least == (api.Ref{}) || cmp.Or(cmp.Compare(first.Row, least.Row), cmp.Compare(first.Col, least.Col)) < 0 {
			least = first
		}
	}
	for _, r := range q.open(at) {
		for _, part := range q.unread(r) {
			take(part)
		}
	}
	return least
}
