package scc

// deepest is how often the search for components calls itself at most; deeper nodes are only kept on a slice, so that graphs may have any depth.
const deepest = 1000

// visit is a node that was entered, and how many of the nodes that it leads to were looked at.
type visit struct {
	node, looked int
}

// walk goes through the nodes of a graph in order to find its components. A component is complete when the first of its nodes that was entered is left.
type walk struct {
	next    [][]int
	entered []int   // for each node, which one it was that was entered, from 1 on; 0: not yet
	low     []int   // for each node, the earliest one in an open component that it is known to reach
	of      []int   // for each node, the number of its component from 1 on; 0: it is not complete
	path    []visit // the nodes that were entered and not left
	open    []int   // the nodes whose components are not complete
	nodes   int     // how many were entered
	found   int     // how many components are complete
}

// enter goes to a node.
func (w *walk) enter(v int) {
	w.nodes++
	w.entered[v], w.low[v] = w.nodes, w.nodes
	w.path = append(w.path, visit{node: v})
	w.open = append(w.open, v)
}

// leave goes back from the last node that was entered.
func (w *walk) leave() {
	v := w.path[len(w.path)-1].node
	w.path = w.path[:len(w.path)-1]
	if w.low[v] == w.entered[v] {
		w.found++
		for w.of[v] == 0 {
			last := w.open[len(w.open)-1]
			w.open = w.open[:len(w.open)-1]
			w.of[last] = w.found
		}
	}
	if len(w.path) > 0 {
		before := w.path[len(w.path)-1].node
		w.low[before] = min(w.low[before], w.low[v])
	}
}

// components returns the number of the component of each node; components are numbered by their least nodes, from 0 on.
func components(next [][]int) []int {
	n := len(next)
	w := &walk{next: next, entered: make([]int, n), low: make([]int, n), of: make([]int, n)}
	// search enters a node, and ends when it is left, after all nodes that it reaches.
	var search func(v, depth int)
	search = func(v, depth int) {
		begin := len(w.path)
		for w.enter(v); len(w.path) > begin; {
			last := &w.path[len(w.path)-1]
			if last.looked == len(next[last.node]) {
				w.leave()
				continue
			}
			to := next[last.node][last.looked]
			last.looked++
			switch {
			case w.entered[to] == 0 && depth < deepest:
				search(to, depth+1)
			case w.entered[to] == 0:
				w.enter(to)
			case w.of[to] == 0:
				w.low[last.node] = min(w.low[last.node], w.entered[to])
			}
		}
	}
	for v := range next {
		if w.entered[v] == 0 {
			search(v, 0)
		}
	}
	return renumbered(w.of, w.found)
}

// renumbered numbers components by their least nodes; before, their numbers are from 1 to n.
func renumbered(of []int, n int) []int {
	number := make([]int, n+1) // the new number plus 1
	count := 0
	l := make([]int, len(of))
	for v, c := range of {
		if number[c] == 0 {
			count++
			number[c] = count
		}
		l[v] = number[c] - 1
	}
	return l
}

// lists returns the nodes of each component.
func lists(of []int) [][]int {
	var size []int
	for _, c := range of {
		if c == len(size) {
			size = append(size, 0)
		}
		size[c]++
	}
	// All lists are cut out of one slice, each with room for just its own nodes.
	all := make([]int, len(of))
	l := make([][]int, len(size))
	first := 0
	for c, n := range size {
		l[c] = all[first : first : first+n]
		first += n
	}
	for v, c := range of {
		l[c] = append(l[c], v)
	}
	return l
}
