package reach_test

import (
	"math"
	"math/rand"
	"slices"
	"strconv"
	"strings"
	"testing"

	"louvre/addr"
	"louvre/api"
	"louvre/deps"
	"louvre/reach"
	"louvre/rect"
	"louvre/sample"
)

const example = "A1 5;A2 =A1+B1;A3 =DSUM(B1:B3);A4 =IFERROR(A3,0)+1"

// The table of examples.
func TestExamples(t *testing.T) {
	g, circle := sample.Graph(example), sample.Graph(example+";B3 =A4")
	for _, x := range []struct {
		g          *deps.Graph
		from, want string
	}{{g, "B2", "A3 A4"}, {g, "B1 A1", "A2 A3 A4"}, {g, "", ""}, {g, "A4", ""}, {g, "A1:AMJ1024", "A2 A3 A4"}, {g, "C1 C2", ""}, {g, "B2 B2 B2", "A3 A4"}, {circle, "A4", "A3 B3 A4"}, {circle, "B3", "A3 B3 A4"}} {
		var l []api.Rect
		for _, w := range strings.Fields(x.from) {
			l = append(l, sample.Rect(w))
		}
		if got, e := reach.Above(x.g, l...); sample.Text(got...) != x.want || e != api.OK {
			t.Error("Above", x.from, sample.Text(got...), e)
		}
	}
	for at, want := range map[string][2]string{"A4": {"A3", "B1:B3 A3"}, "A3": {"", "B1:B3"}, "A2": {"", "A1 B1"}, "A1": {"", ""}, "C1": {"", ""}} {
		if l, e := reach.Below(g, sample.Ref(at)); sample.Text(l...) != want[0] || e != api.OK {
			t.Error("Below", at, sample.Text(l...), e)
		}
		l, e := reach.Leaves(g, sample.Ref(at))
		var words []string
		for _, r := range l {
			s, _ := rect.Format(r)
			words = append(words, s)
		}
		if strings.Join(words, " ") != want[1] || e != api.OK {
			t.Error("Leaves", at, words, e)
		}
	}
	for s, want := range map[string]bool{"A4 B3": true, "A4 A4": false, "B1 B1": false, "A4 A3": true, "A3 A4": false, "A2 A1": true} {
		a, b, _ := strings.Cut(s, " ")
		if ok, e := reach.Reaches(g, sample.Ref(a), sample.Ref(b)); ok != want || e != api.OK {
			t.Error("Reaches", s, ok, e)
		}
	}
	for s, want := range map[string]string{"A4 B2": "A4 A3 B2", "A2 A3": "", "A3 B1": "A3 B1", "A1 A1": "", "A4 A4": ""} {
		a, b, _ := strings.Cut(s, " ")
		if l, ok, e := reach.Path(g, sample.Ref(a), sample.Ref(b)); sample.Text(l...) != want || ok != (want != "") || e != api.OK {
			t.Error("Path", s, sample.Text(l...), ok, e)
		}
	}
	if l, ok, e := reach.Path(circle, sample.Ref("A4"), sample.Ref("A4")); sample.Text(l...) != "A4 A3 B3 A4" || !ok || e != api.OK {
		t.Error("Path A4 A4", sample.Text(l...), ok, e)
	}
}

// The order of Leaves.
func TestLeaves(t *testing.T) {
	g := sample.Graph("Z1 =SUM(B2:C3,A2:Z2,B2:C2,B2:B3,B1,Z2)+B2+B2;Z2 =SUM(B2:C3,A9)")
	l, e := reach.Leaves(g, sample.Ref("Z1"))
	var words []string
	for _, r := range l {
		s, _ := rect.Format(r)
		words = append(words, s)
	}
	if got := strings.Join(words, " "); got != "B1 A2:Z2 B2 B2:C2 B2:B3 B2:C3 Z2 A9" || e != api.OK {
		t.Error("Leaves", got, e)
	}
}

// The errors, in their order.
func TestFaults(t *testing.T) {
	g := sample.Graph(example)
	good := sample.Ref("A1")
	for _, at := range []api.Ref{{}, {Col: 1025, Row: 1}, {Col: 1, Row: 1025}, {Col: math.MinInt, Row: math.MaxInt}} {
		for _, g := range []*deps.Graph{nil, g} {
			want := api.ErrRange
			if g == nil {
				want = api.ErrNil
			}
			if l, e := reach.Above(g, rect.One(good), rect.One(at)); l != nil || e != want {
				t.Error("Above", at, l, e)
			}
			if l, e := reach.Below(g, at); l != nil || e != want {
				t.Error("Below", at, l, e)
			}
			if l, e := reach.Leaves(g, at); l != nil || e != want {
				t.Error("Leaves", at, l, e)
			}
			for _, p := range [][2]api.Ref{{at, good}, {good, at}} {
				if ok, e := reach.Reaches(g, p[0], p[1]); ok || e != want {
					t.Error("Reaches", p, ok, e)
				}
				if l, ok, e := reach.Path(g, p[0], p[1]); l != nil || ok || e != want {
					t.Error("Path", p, l, ok, e)
				}
			}
		}
	}
	if l, e := reach.Above(nil); l != nil || e != api.ErrNil {
		t.Error("Above of nothing:", l, e)
	}
}

var inputs = []string{"", "", "5", "=A1", "=B2+C3", "=D4", "=SUM(A3:B4)", "=DSUM(B1:B2)", "=C1+A4", "=D1+D2", "=B3", "=E5"}

// P23.1 to P23.8, against all ways of at most some length.
func TestRandom(t *testing.T) {
	r := rand.New(rand.NewSource(1))
	cells, _ := rect.Refs(sample.Rect("A1:E5"))
	for range 120 {
		g, _ := deps.New()
		for range r.Intn(25) {
			g.Set(cells[r.Intn(20)], inputs[r.Intn(len(inputs))])
		}
		uses := func(a, b api.Ref) bool {
			return slices.ContainsFunc(g.Uses(a), func(u api.Use) bool { return rect.Has(u.Rect, b) })
		}
		reaches := map[[2]api.Ref]bool{}
		for _, a := range cells {
			for _, b := range cells {
				reaches[[2]api.Ref{a, b}] = uses(a, b)
			}
		}
		for _, k := range cells {
			for _, a := range cells {
				for _, b := range cells {
					if reaches[[2]api.Ref{a, k}] && reaches[[2]api.Ref{k, b}] {
						reaches[[2]api.Ref{a, b}] = true
					}
				}
			}
		}
		formula := func(at api.Ref) bool { _, ok := g.Tree(at); return ok }
		var above []api.Rect
		both := map[api.Ref]bool{}
		for _, a := range cells {
			var below, up []api.Ref
			for _, b := range cells {
				if reaches[[2]api.Ref{a, b}] && formula(b) {
					below = append(below, b)
				}
				if reaches[[2]api.Ref{b, a}] {
					up = append(up, b)
				}
				ok, e := reach.Reaches(g, a, b)
				if ok != reaches[[2]api.Ref{a, b}] || e != api.OK {
					t.Fatal("Reaches", a, b, ok, e)
				}
				checkPath(t, g, a, b, ok, cells, uses)
				leaves, _ := reach.Leaves(g, a)
				if ok != slices.ContainsFunc(leaves, func(r api.Rect) bool { return rect.Has(r, b) }) {
					t.Fatal("Leaves", a, b, leaves)
				}
			}
			if l, e := reach.Below(g, a); sample.Text(l...) != sample.Text(below...) || e != api.OK {
				t.Fatal("Below", a, sample.Text(l...), sample.Text(below...), e)
			}
			if l, e := reach.Above(g, rect.One(a)); sample.Text(l...) != sample.Text(up...) || e != api.OK {
				t.Fatal("Above", a, sample.Text(l...), sample.Text(up...), e)
			}
			if r.Intn(5) == 0 {
				above = append(above, rect.One(a))
				for _, b := range up {
					both[b] = true
				}
			}
		}
		if l, e := reach.Above(g, above...); len(l) != len(both) || e != api.OK || slices.ContainsFunc(l, func(b api.Ref) bool { return !both[b] }) {
			t.Fatal("Above", above, sample.Text(l...), e)
		}
	}
}

// checkPath checks that Path returns the first one of the shortest ways.
func checkPath(t *testing.T, g *deps.Graph, a, b api.Ref, ok bool, cells []api.Ref, uses func(a, b api.Ref) bool) {
	way, found, e := reach.Path(g, a, b)
	if found != ok || e != api.OK || !ok && way != nil {
		t.Fatal("Path", a, b, way, found, e)
	}
	if !ok {
		return
	}
	// The ways of each length are tried in their order; the first one that ends at b is the answer.
	for n := 2; ; n++ {
		var try func(at api.Ref, left int) []api.Ref
		try = func(at api.Ref, left int) []api.Ref {
			for _, c := range cells {
				if !uses(at, c) {
					continue
				}
				if left == 2 && c == b {
					return []api.Ref{at, c}
				}
				if left > 2 {
					if rest := try(c, left-1); rest != nil {
						return append([]api.Ref{at}, rest...)
					}
				}
			}
			return nil
		}
		if want := try(a, n); want != nil {
			if sample.Text(way...) != sample.Text(want...) {
				t.Fatal("Path", sample.Text(way...), "want", sample.Text(want...))
			}
			return
		}
	}
}

// A long chain of cells.
func TestChain(t *testing.T) {
	g, _ := deps.New()
	const n = 20000
	at := func(i int) api.Ref { return api.Ref{Col: 1 + i%100, Row: 1 + i/100} }
	for i := range n {
		s, _ := addr.Format(at(i + 1))
		g.Set(at(i), "="+s)
	}
	if l, e := reach.Above(g, rect.One(at(n))); len(l) != n || e != api.OK {
		t.Error("Above", len(l), e)
	}
	if l, e := reach.Below(g, at(0)); len(l) != n-1 || e != api.OK {
		t.Error("Below", len(l), e)
	}
	if l, ok, e := reach.Path(g, at(0), at(n)); len(l) != n+1 || !ok || e != api.OK {
		t.Error("Path", len(l), ok, e)
	}
	if l, e := reach.Leaves(g, at(n-5)); len(l) != 5 || e != api.OK {
		t.Error("Leaves of cell "+strconv.Itoa(n-5), len(l), e)
	}
}
