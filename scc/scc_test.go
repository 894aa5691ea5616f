package scc_test

import (
	"fmt"
	"math"
	"math/rand"
	"slices"
	"testing"

	"louvre/api"
	"louvre/scc"
)

func same(a, b [][]int) bool { return slices.EqualFunc(a, b, slices.Equal[[]int]) }

// The table of examples.
func TestExamples(t *testing.T) {
	for _, x := range []struct {
		next, components, condensed [][]int
		loops                       []int
	}{
		{[][]int{{1}, {2}, {0}, {2}}, [][]int{{0, 1, 2}, {3}}, [][]int{nil, {0}}, []int{0, 1, 2}},
		{[][]int{{0}, {0, 0}}, [][]int{{0}, {1}}, [][]int{nil, {0}}, []int{0}},
		{nil, nil, nil, nil},
		{[][]int{nil}, [][]int{{0}}, [][]int{nil}, nil},
		{[][]int{{3}, {2}, {1}, {0}, {1, 0, 3, 2, 4}}, [][]int{{0, 3}, {1, 2}, {4}}, [][]int{nil, nil, {0, 1}}, []int{0, 1, 2, 3, 4}},
		{[][]int{{1}, nil, {0}}, [][]int{{0}, {1}, {2}}, [][]int{{1}, nil, {0}}, nil},
	} {
		if l, e := scc.Components(x.next); !same(l, x.components) || e != api.OK {
			t.Error("Components", x.next, l, e)
		}
		if l, e := scc.Loops(x.next); !slices.Equal(l, x.loops) || e != api.OK {
			t.Error("Loops", x.next, l, e)
		}
		if l, e := scc.Condense(x.next); !same(l, x.condensed) || e != api.OK {
			t.Error("Condense", x.next, l, e)
		}
	}
	for _, next := range [][][]int{{{1}}, {{-1}}, {{0}, {0, 2}}, {nil, {math.MaxInt}}, {{math.MinInt}}} {
		if l, e := scc.Components(next); l != nil || e != api.ErrRange {
			t.Error("Components", next, l, e)
		}
		if l, e := scc.Loops(next); l != nil || e != api.ErrRange {
			t.Error("Loops", next, l, e)
		}
		if l, e := scc.Condense(next); l != nil || e != api.ErrRange {
			t.Error("Condense", next, l, e)
		}
	}
}

// random returns a graph of some nodes.
func random(r *rand.Rand) [][]int {
	n := 1 + r.Intn(9)
	next := make([][]int, n)
	for range r.Intn(2 * n) {
		v := r.Intn(n)
		next[v] = append(next[v], r.Intn(n))
	}
	return next
}

// reached returns for each two nodes whether the first reaches the second.
func reached(next [][]int) [][]bool {
	m := make([][]bool, len(next))
	for v, l := range next {
		m[v] = make([]bool, len(next))
		for _, w := range l {
			m[v][w] = true
		}
	}
	for k := range next {
		for i := range next {
			for j := range next {
				m[i][j] = m[i][j] || m[i][k] && m[k][j]
			}
		}
	}
	return m
}

// P24.1 to P24.5, against the relation itself.
func TestRandom(t *testing.T) {
	r := rand.New(rand.NewSource(1))
	for range 20000 {
		next := random(r)
		before := fmt.Sprint(next)
		m := reached(next)
		var want [][]int
		of := make([]int, len(next))
		var loops []int
		for v := range next {
			if m[v][v] {
				loops = append(loops, v)
			}
			of[v] = slices.IndexFunc(want, func(l []int) bool { return m[v][l[0]] && m[l[0]][v] })
			if of[v] < 0 {
				of[v] = len(want)
				want = append(want, nil)
			}
			want[of[v]] = append(want[of[v]], v)
		}
		condensed := make([][]int, len(want))
		for v, l := range next {
			for _, w := range l {
				if of[v] != of[w] && !slices.Contains(condensed[of[v]], of[w]) {
					condensed[of[v]] = append(condensed[of[v]], of[w])
				}
			}
		}
		for _, l := range condensed {
			slices.Sort(l)
		}
		components, e := scc.Components(next)
		if !same(components, want) || e != api.OK {
			t.Fatal("Components", next, components, want, e)
		}
		if l, e := scc.Loops(next); !slices.Equal(l, loops) || e != api.OK {
			t.Fatal("Loops", next, l, loops, e)
		}
		c, e := scc.Condense(next)
		if !same(c, condensed) || e != api.OK {
			t.Fatal("Condense", next, c, condensed, e)
		}
		if l, _ := scc.Loops(c); l != nil {
			t.Fatal("Loops of Condense", next, l)
		}
		if again, _ := scc.Condense(c); !same(again, c) {
			t.Fatal("Condense of Condense", next, again)
		}
		if fmt.Sprint(next) != before {
			t.Fatal("the graph is changed", next)
		}
		for i := range components {
			components[i] = append(components[i], 99)
		}
		for i, l := range components {
			if !slices.Equal(l[:len(l)-1], want[i]) {
				t.Fatal("the components share memory")
			}
		}
	}
}

// P24.6
func TestRenamed(t *testing.T) {
	r := rand.New(rand.NewSource(2))
	for range 5000 {
		next := random(r)
		n := len(next)
		name := r.Perm(n)
		reversed, renamed := make([][]int, n), make([][]int, n)
		for v, l := range next {
			for _, w := range l {
				reversed[w] = append(reversed[w], v)
				renamed[name[v]] = append(renamed[name[v]], name[w])
			}
		}
		a, _ := scc.Components(next)
		if b, _ := scc.Components(reversed); !same(a, b) {
			t.Fatal("reversed edges:", next, a, b)
		}
		for _, l := range a {
			for i := range l {
				l[i] = name[l[i]]
			}
			slices.Sort(l)
		}
		slices.SortFunc(a, func(x, y []int) int { return x[0] - y[0] })
		if b, _ := scc.Components(renamed); !same(a, b) {
			t.Fatal("renamed nodes:", next, a, b)
		}
	}
}

// Deep graphs: a chain, a circle, and both with edges back.
func TestDeep(t *testing.T) {
	const n = 1000000
	next := make([][]int, n)
	for v := range n - 1 {
		next[v] = []int{v + 1}
	}
	if l, e := scc.Components(next); len(l) != n || e != api.OK {
		t.Error("a chain:", len(l), e)
	}
	if l, e := scc.Loops(next); l != nil || e != api.OK {
		t.Error("a chain:", len(l), e)
	}
	next[n-1] = []int{0}
	if l, e := scc.Components(next); len(l) != 1 || len(l[0]) != n || e != api.OK {
		t.Error("a circle:", len(l), e)
	}
	next[n-1] = []int{n / 2}
	if l, e := scc.Condense(next); len(l) != n/2+1 || e != api.OK {
		t.Error("a chain that ends in a circle:", len(l), e)
	}
	for v := range n {
		next[v] = []int{(v + n - 1) % n, v}
	}
	if l, e := scc.Loops(next); len(l) != n || e != api.OK {
		t.Error("a circle backwards:", len(l), e)
	}
}
