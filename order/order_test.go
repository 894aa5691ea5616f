package order_test

import (
	"fmt"
	"math"
	"math/rand"
	"slices"
	"testing"

	"louvre/api"
	"louvre/order"
)

// The table of examples.
func TestExamples(t *testing.T) {
	first := [][]int{nil, {0}, {0}, {1, 2}}
	for _, x := range []struct {
		next          [][]int
		order, levels []int
		e             api.Errno
	}{
		{first, []int{0, 1, 2, 3}, []int{0, 1, 1, 2}, api.OK}, {[][]int{{2}, nil, nil}, []int{1, 2, 0}, []int{1, 0, 0}, api.OK}, {[][]int{{1}, {0}}, nil, nil, api.ErrCycle}, {[][]int{{3}}, nil, nil, api.ErrRange}, {nil, nil, nil, api.OK},
		{[][]int{{0}}, nil, nil, api.ErrCycle}, {[][]int{{0}, {5}}, nil, nil, api.ErrRange}, {[][]int{{-1}}, nil, nil, api.ErrRange}, {[][]int{{1, 1, 1}, nil}, []int{1, 0}, []int{1, 0}, api.OK}, {[][]int{nil, {2}, {3}, {1}}, nil, nil, api.ErrCycle},
	} {
		if l, e := order.Topological(x.next); !slices.Equal(l, x.order) || e != x.e {
			t.Error("Topological", x.next, l, e)
		}
		if l, e := order.Levels(x.next); !slices.Equal(l, x.levels) || e != x.e {
			t.Error("Levels", x.next, l, e)
		}
	}
	for _, x := range []struct {
		next [][]int
		l    []int
		want api.Errno
	}{
		{first, []int{0, 2, 1, 3}, api.OK}, {first, []int{0, 1, 2, 3}, api.OK}, {first, []int{1, 0, 2, 3}, api.ErrOrder}, {first, []int{0, 1, 2}, api.ErrOrder}, {first, []int{0, 1, 2, 2}, api.ErrOrder}, {first, []int{0, 1, 2, 3, 3}, api.ErrOrder}, {first, []int{0, 1, 2, 4}, api.ErrOrder}, {first, []int{0, 1, 2, -1}, api.ErrOrder}, {first, []int{0, 1, 2, math.MinInt}, api.ErrOrder}, {first, nil, api.ErrOrder}, {first, []int{3, 2, 1, 0}, api.ErrOrder},
		{nil, nil, api.OK}, {nil, []int{0}, api.ErrOrder}, {[][]int{{0}}, []int{0}, api.ErrOrder}, {[][]int{{1}, {0}}, []int{0, 1}, api.ErrOrder}, {[][]int{{7}}, []int{0}, api.ErrRange}, {[][]int{{1}}, nil, api.ErrRange}, {[][]int{{-1}}, []int{5, 5}, api.ErrRange},
	} {
		if e := order.Check(x.next, x.l...); e != x.want {
			t.Error("Check", x.next, x.l, e)
		}
	}
}

// random returns a graph, mostly one without cycles.
func random(r *rand.Rand) [][]int {
	n := 1 + r.Intn(7)
	next := make([][]int, n)
	name := r.Perm(n)
	for range r.Intn(2 * n) {
		a, b := r.Intn(n), r.Intn(n)
		if a == b && r.Intn(20) > 0 {
			continue
		}
		if r.Intn(20) > 0 {
			a, b = max(a, b), min(a, b)
		}
		next[name[a]] = append(next[name[a]], name[b])
	}
	return next
}

// least returns the first order, compared node by node, by trying all nodes at each place; nil if there is none.
func least(next [][]int) []int {
	l := []int{}
	for range next {
		for v := range next {
			ready := !slices.Contains(l, v) && !slices.ContainsFunc(next[v], func(w int) bool { return !slices.Contains(l, w) })
			if ready {
				l = append(l, v)
				break
			}
		}
	}
	if len(l) < len(next) {
		return nil
	}
	return l
}

// P25.1 to P25.6
func TestRandom(t *testing.T) {
	r := rand.New(rand.NewSource(1))
	for range 20000 {
		next := random(r)
		before := fmt.Sprint(next)
		want := least(next)
		l, e := order.Topological(next)
		levels, f := order.Levels(next)
		if want == nil {
			if l != nil || levels != nil || e != api.ErrCycle || f != api.ErrCycle {
				t.Fatal("a cycle:", next, l, e, levels, f)
			}
			continue
		}
		if !slices.Equal(l, want) || e != api.OK || order.Check(next, l...) != api.OK {
			t.Fatal("Topological", next, l, want, e)
		}
		for v, to := range next {
			level := 0
			for _, w := range to {
				level = max(level, levels[w]+1)
			}
			if levels[v] != level || f != api.OK {
				t.Fatal("Levels", next, levels, f)
			}
		}
		byLevel := slices.Clone(l)
		r.Shuffle(len(byLevel), func(i, k int) { byLevel[i], byLevel[k] = byLevel[k], byLevel[i] })
		ok := !slices.ContainsFunc(byLevel, func(v int) bool {
			return slices.ContainsFunc(next[v], func(w int) bool { return slices.Index(byLevel, w) >= slices.Index(byLevel, v) })
		})
		if e := order.Check(next, byLevel...); (e == api.OK) != ok || !ok && e != api.ErrOrder {
			t.Fatal("Check", next, byLevel, e)
		}
		slices.SortFunc(byLevel, func(a, b int) int { return levels[a] - levels[b] })
		if e := order.Check(next, byLevel...); e != api.OK {
			t.Fatal("the nodes by levels:", next, byLevel, e)
		}
		less := slices.Clone(next)
		v := r.Intn(len(less))
		less[v] = nil
		fewer, _ := order.Levels(less)
		if order.Check(less, l...) != api.OK || slices.ContainsFunc(l, func(v int) bool { return fewer[v] > levels[v] }) {
			t.Fatal("fewer edges:", next, less)
		}
		if fmt.Sprint(next) != before {
			t.Fatal("the graph is changed", next)
		}
	}
}

// A long chain.
func TestDeep(t *testing.T) {
	const n = 300000
	next := make([][]int, n)
	for v := range n - 1 {
		next[v] = []int{v + 1}
	}
	l, e := order.Topological(next)
	if len(l) != n || l[0] != n-1 || e != api.OK || order.Check(next, l...) != api.OK {
		t.Error("Topological", len(l), e)
	}
	if levels, e := order.Levels(next); levels[0] != n-1 || e != api.OK {
		t.Error("Levels", levels[0], e)
	}
}
