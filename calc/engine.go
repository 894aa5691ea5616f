package calc

import (
	"iter"
	"slices"

	"louvre/api"
	"louvre/book"
	"louvre/cycle"
	"louvre/deps"
	"louvre/eval"
	"louvre/flow"
	"louvre/grant"
	"louvre/reach"
	"louvre/rect"
	"louvre/sheet"
)

// engine is what an Engine keeps. Exactly the cells with contents have values that are not blank: no input but the empty one means a blank, and no formula has one.
type engine struct {
	*deps.Graph
	values      *sheet.Sheet
	find        func(at api.Ref) (api.Value, api.Errno) // the value of an address
	users       int
	rules       []api.Rule
	grants      []api.Grant
	labels      map[api.Ref]uint64 // of the formula cells; nil if they are not known
	evaluations int
}

// circle is the value of circular cells.
func circle() api.Value {
	return api.Value{Kind: api.Error, Num: api.Cycle}
}

// recalculate brings values up to date after a range was written, and returns the cells that were evaluated.
func (k *engine) recalculate(r api.Rect) []api.Ref {
	k.labels = nil
	var l []api.Ref
	for at := range k.due(r) {
		t, _ := k.Tree(at)
		v, _ := eval.Value(t, k.values)
		k.values.Set(at, v)
		k.evaluations++
		l = append(l, at)
	}
	return l
}

// due yields the cells that are to be evaluated after a range was written, in their order; before that, it gives the circular cells their value.
func (k *engine) due(r api.Rect) iter.Seq[api.Ref] {
	return func(yield func(api.Ref) bool) {
		loops, _ := cycle.Circular(k.Graph)
		for _, at := range loops {
			k.values.Set(at, circle())
		}
		reaching, _ := reach.Above(k.Graph, r)
		circular, above := setOf(loops), setOf(reaching)
		var l []api.Ref
		for _, at := range k.Formulas() {
			if !circular[at] && (above[at] || rect.Has(r, at)) {
				l = append(l, at)
			}
		}
		cells, _ := cycle.Among(k.Graph, l...)
		for _, at := range cells {
			if !yield(at) {
				return
			}
		}
	}
}

// setOf returns the set of cells.
func setOf(l []api.Ref) map[api.Ref]bool {
	s := map[api.Ref]bool{}
	for _, at := range l {
		s[at] = true
	}
	return s
}

// change replaces the rules and the grants, if they are valid.
func (k *engine) change(rules []api.Rule, grants []api.Grant) api.Errno {
	if e := book.Check(api.Book{Users: k.users, Rules: rules, Grants: grants}); e != api.OK {
		return e
	}
	k.rules, k.grants, k.labels = rules, grants, nil
	return api.OK
}

// label returns the label of an address.
func (k *engine) label(at api.Ref) (uint64, api.Errno) {
	if k.labels == nil {
		k.labels = map[api.Ref]uint64{}
		l, _ := flow.Labels(k.Graph, k.rules, k.grants)
		for _, x := range l {
			k.labels[x.At] = x.Label
		}
	}
	if label, ok := k.labels[at]; ok {
		return label, api.OK
	}
	return flow.Label(k.Graph, at, k.rules, k.grants)
}

// shown returns the calls that are released, with their values.
func (k *engine) shown() []api.Shown {
	var l []api.Shown
	for _, at := range k.Formulas() {
		for _, u := range k.Uses(at) {
			var to uint64
			if u.Fn != 0 {
				to, _, _ = grant.For(u.Fn, u.Rect, k.rules, k.grants)
			}
			if to != 0 {
				l = append(l, api.Shown{Call: api.Call{At: at, Node: u.Node}, V: k.called(at, u), To: to})
			}
		}
	}
	return l
}

// called returns the value of a call.
func (k *engine) called(at api.Ref, u api.Use) api.Value {
	cells, _ := k.values.In(u.Rect)
	if slices.ContainsFunc(cells, func(c api.Cell) bool { return c.V == circle() }) {
		return circle()
	}
	t, _ := k.Tree(at)
	v, _ := eval.Node(t, u.Node, k.values)
	return v
}
