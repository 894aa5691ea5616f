package deps_test

import (
	"math"
	"math/rand"
	"slices"
	"strconv"
	"strings"
	"testing"

	"louvre/api"
	"louvre/deps"
	"louvre/entry"
	"louvre/parse"
	"louvre/rect"
	"louvre/sample"
	"louvre/tree"
)

func pairs(l [][2]api.Ref) string {
	var words []string
	for _, p := range l {
		words = append(words, strings.ReplaceAll(sample.Text(p[:]...), " ", ">"))
	}
	return strings.Join(words, " ")
}

const example = "A1 5;A2 =A1+B1;A3 =DSUM(B1:B3);A4 =IFERROR(A3,0)+1"

// The table of examples, P22.2 to P22.4.
func TestExamples(t *testing.T) {
	g := sample.Graph(example)
	for at, want := range map[string][]api.Use{
		"A2": {{Rect: sample.Rect("A1"), Node: -1}, {Rect: sample.Rect("B1"), Node: -1}}, "A3": {{Rect: sample.Rect("B1:B3"), Node: 1, Fn: api.FnDSum}}, "A4": {{Rect: sample.Rect("A3"), Node: -1}}, "A1": nil, "C9": nil,
	} {
		if l := g.Uses(sample.Ref(at)); !slices.Equal(l, want) {
			t.Error("Uses", at, l)
		}
	}
	for r, want := range map[string]string{"B1:B2": "A2 A3", "A3": "A4", "C1": "", "A1:AMJ1024": "A2 A3 A4", "B1": "A2 A3", "B3": "A3", "A1:B1": "A2 A3"} {
		if l := g.Users(sample.Rect(r)); sample.Text(l...) != want {
			t.Error("Users", r, sample.Text(l...))
		}
	}
	if sample.Text(g.Formulas()...) != "A2 A3 A4" || pairs(g.Edges()) != "A4>A3" {
		t.Error("Formulas or Edges", g.Formulas(), g.Edges())
	}
	x, ok := g.Tree(sample.Ref("A2"))
	if want, _, _ := parse.Formula("A1+B1"); !tree.Equal(x, want) || !ok {
		t.Error("Tree", x, ok)
	}
	for _, at := range []string{"A1", "B1"} {
		if x, ok := g.Tree(sample.Ref(at)); x != nil || ok {
			t.Error("Tree", at, x, ok)
		}
	}
	if e := g.Set(sample.Ref("A2"), ""); e != api.OK {
		t.Error("Set", e)
	}
	if e := g.Set(api.Ref{Col: 1}, "1"); e != api.ErrRange {
		t.Error("Set", e)
	}
	_, _, want := entry.Of("=")
	if e := g.Set(sample.Ref("A2"), "="); e != want || e == api.OK {
		t.Error("Set", e)
	}
	if sample.Text(g.Formulas()...) != "A3 A4" {
		t.Error("Formulas", g.Formulas())
	}
}

// P22.1
func TestFaults(t *testing.T) {
	for _, l := range [][]api.Entry{{{At: api.Ref{}, Input: ""}}, {{At: sample.Ref("A1")}}, {{At: sample.Ref("A2"), Input: "1"}, {At: sample.Ref("A1"), Input: "1"}}, {{At: sample.Ref("A1"), Input: "=1+"}}, {{At: sample.Ref("A1"), Input: "=FOO(1)"}}, {{At: sample.Ref("A1"), Input: strings.Repeat("x", 257)}}} {
		_, want := entry.Check(l...)
		if g, e := deps.New(l...); g != nil || e != want || e == api.OK {
			t.Error("New", l, g, e)
		}
	}
	if g, e := deps.New(); g == nil || e != api.OK || g.Formulas() != nil {
		t.Error("New of nothing:", g, e)
	}
	g := sample.Graph(example)
	for _, at := range []api.Ref{{}, {Col: 1025, Row: 1}, {Col: 1, Row: math.MinInt}} {
		if e := g.Set(at, "="); e != api.ErrRange {
			t.Error("Set", at, e)
		}
	}
	for _, s := range []string{"=1+", "=FOO(1)", "\n", strings.Repeat("x", 257), "=ABS()", "=" + strings.Repeat("-", 40) + "1"} {
		_, _, want := entry.Of(s)
		if e := g.Set(sample.Ref("A2"), s); e != want {
			t.Error("Set", s, e)
		}
	}
	if sample.Text(g.Formulas()...) != "A2 A3 A4" || len(g.Uses(sample.Ref("A2"))) != 2 {
		t.Error("errors changed the graph")
	}
	for _, r := range []api.Rect{{}, {C1: 1, R1: 1, C2: 1025, R2: 1}, {C1: 2, R1: 1, C2: 1, R2: 5}, {C1: math.MinInt, R1: math.MinInt, C2: math.MaxInt, R2: math.MaxInt}} {
		if l := g.Users(r); l != nil {
			t.Error("Users", r, l)
		}
	}
	if g.Uses(api.Ref{Col: -1}) != nil {
		t.Error("Uses of no address")
	}
}

// R5
func TestNil(t *testing.T) {
	var g *deps.Graph
	if e := g.Set(api.Ref{}, "="); e != api.ErrNil {
		t.Error("Set", e)
	}
	if x, ok := g.Tree(sample.Ref("A1")); x != nil || ok || g.Uses(sample.Ref("A1")) != nil || g.Users(sample.Rect("A1")) != nil || g.Formulas() != nil || g.Edges() != nil || g.Copy() != nil {
		t.Error("methods of nil")
	}
}

// R3
func TestMemory(t *testing.T) {
	g := sample.Graph(example)
	x, _ := g.Tree(sample.Ref("A2"))
	x[0], x[1] = api.Node{}, api.Node{}
	u := g.Uses(sample.Ref("A2"))
	u[0] = api.Use{}
	f := g.Formulas()
	f[0] = sample.Ref("Z9")
	if y, _ := g.Tree(sample.Ref("A2")); tree.Check(y) != api.OK || g.Uses(sample.Ref("A2"))[0] == (api.Use{}) || sample.Text(g.Formulas()...) != "A2 A3 A4" {
		t.Error("results share memory with the graph")
	}
}

// inputs are constants and formulas over A1:D4.
var inputs = []string{"", "", "5", "x", "=A1", "=B2+C3", "=SUM(A1:D4)", "=DSUM(B1:B4)", "=D4", "=A1+A1+SUM(A1:B2)", "=1", "=SUM(A2:D2,B1:B4)", "=C1+B1+A1"}

// P22.4 to P22.8, against a list of inputs.
func TestRandom(t *testing.T) {
	r := rand.New(rand.NewSource(1))
	for range 500 {
		g := sample.Graph(example)
		for at := range strings.FieldsSeq("A1 A2 A3 A4") {
			g.Set(sample.Ref(at), "")
		}
		now := map[api.Ref]string{}
		other := g.Copy()
		var copied map[api.Ref]string
		for i := range r.Intn(40) {
			if i == 10 {
				other, copied = g.Copy(), map[api.Ref]string{}
				for at, s := range now {
					copied[at] = s
				}
			}
			at, s := api.Ref{Col: 1 + r.Intn(4), Row: 1 + r.Intn(4)}, inputs[r.Intn(len(inputs))]
			if e := g.Set(at, s); e != api.OK {
				t.Fatal("Set", at, s, e)
			}
			now[at] = s
		}
		check(t, g, now)
		check(t, other, copied)
	}
}

// check checks all that a graph says, for A1:D4.
func check(t *testing.T, g *deps.Graph, now map[api.Ref]string) {
	t.Helper()
	var l []api.Entry
	var formulas []api.Ref
	cells, _ := rect.Refs(sample.Rect("A1:D4"))
	for _, at := range cells {
		if now[at] != "" {
			l = append(l, api.Entry{At: at, Input: now[at]})
		}
		if strings.HasPrefix(now[at], "=") {
			formulas = append(formulas, at)
		}
	}
	again, e := deps.New(l...)
	if e != api.OK || sample.Text(again.Formulas()...) != sample.Text(g.Formulas()...) || pairs(again.Edges()) != pairs(g.Edges()) {
		t.Fatal("New", l, e)
	}
	if sample.Text(g.Formulas()...) != sample.Text(formulas...) {
		t.Fatal("Formulas", l, g.Formulas())
	}
	uses := func(a, b api.Ref) bool {
		return slices.ContainsFunc(g.Uses(a), func(u api.Use) bool { return rect.Has(u.Rect, b) })
	}
	var edges [][2]api.Ref
	for _, a := range formulas {
		for _, b := range formulas {
			if uses(a, b) {
				edges = append(edges, [2]api.Ref{a, b})
			}
		}
	}
	if pairs(g.Edges()) != pairs(edges) {
		t.Fatal("Edges", l, pairs(g.Edges()), pairs(edges))
	}
	for _, s := range []string{"A1", "B2", "D4", "C1:D2", "A1:D1", "A3:B4", "E5"} {
		var want []api.Ref
		refs, _ := rect.Refs(sample.Rect(s))
		for _, a := range formulas {
			if slices.ContainsFunc(refs, func(b api.Ref) bool { return uses(a, b) }) {
				want = append(want, a)
			}
		}
		if got := g.Users(sample.Rect(s)); sample.Text(got...) != sample.Text(want...) {
			t.Fatal("Users", l, s, sample.Text(got...), sample.Text(want...))
		}
	}
}

// P22.4: many formulas that use wide ranges.
func TestMany(t *testing.T) {
	g, _ := deps.New()
	for row := 1; row <= 300; row++ {
		g.Set(api.Ref{Col: 3, Row: row}, "=SUM(C"+strconv.Itoa(row)+":C1024,A1:AMJ1)")
		g.Set(api.Ref{Col: 9, Row: row}, "=1")
	}
	// Each cell uses those of its column from itself on, and the two cells of the first row; C1 is one of both.
	if n := len(g.Edges()); n != 300*301/2+300+299 {
		t.Error("Edges:", n)
	}
	if n := len(g.Users(sample.Rect("C300"))); n != 300 {
		t.Error("Users:", n)
	}
	if n := len(g.Users(sample.Rect("C1:C10"))); n != 300 {
		t.Error("Users:", n)
	}
}
