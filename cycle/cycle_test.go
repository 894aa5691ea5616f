package cycle_test

import (
	"math"
	"math/rand"
	"slices"
	"testing"

	"louvre/addr"
	"louvre/api"
	"louvre/cycle"
	"louvre/deps"
	"louvre/reach"
	"louvre/rect"
	"louvre/sample"
)

const example = "A2 =A1+B1;A3 =DSUM(B1:B3);A4 =IFERROR(A3,0)+1"

// The table of examples, and Among through other cells.
func TestExamples(t *testing.T) {
	for s, want := range map[string][3]string{
		example: {"", "", "A2 A3 A4"}, example + ";B3 =A4": {"A3 B3 A4", "A3 B3 A4", "A2"}, example + ";B3 =A4;B4 =A3": {"A3 B3 A4", "A3 B3 A4 B4", "A2"}, example + ";A1 =A4": {"", "", "A3 A4 A1 A2"},
		"A1 5": {"", "", ""}, "A1 =A1": {"A1", "A1", ""}, "A1 =SUM(A1:B2)": {"A1", "A1", ""}, "C1 =IFERROR(A1,0);A1 =A1;B1 =C1": {"A1", "A1 B1 C1", ""}, "A1 =C1;C1 =5": {"", "", "C1 A1"},
	} {
		g := sample.Graph(s)
		if l, e := cycle.Loops(g); sample.Text(l...) != want[0] || e != api.OK {
			t.Error("Loops", s, sample.Text(l...), e)
		}
		if l, e := cycle.Circular(g); sample.Text(l...) != want[1] || e != api.OK {
			t.Error("Circular", s, sample.Text(l...), e)
		}
		if l, e := cycle.Order(g); sample.Text(l...) != want[2] || e != api.OK {
			t.Error("Order", s, sample.Text(l...), e)
		}
	}
	for _, x := range []struct {
		g, l, want string
		e          api.Errno
	}{
		{example, "A4 A2", "A2 A4", api.OK}, {example, "A4 A3", "A3 A4", api.OK}, {example, "", "", api.OK}, {example, "A1", "", api.ErrNone}, {example, "A4 A4", "", api.ErrHave}, {example, "A4 A4 A1", "", api.ErrHave}, {example, "A4 A1 A4", "", api.ErrNone}, {example + ";B3 =A4", "A4", "", api.ErrCycle}, {example + ";B3 =A4", "A2 A3", "", api.ErrCycle}, {example + ";B3 =A4", "A2 A2 A3", "", api.ErrHave}, {example + ";B3 =A4", "A2", "A2", api.OK},
		{"A1 =Z9;Z9 =C1;C1 =5;B1 =6", "A1 B1 C1", "B1 C1 A1", api.OK}, {"A1 =Z9;Z9 =C1;C1 =5;B1 =6", "C1 A1", "C1 A1", api.OK}, {"A1 =Z9;Z9 =5;B1 =6", "B1 A1", "A1 B1", api.OK},
	} {
		if l, e := cycle.Among(sample.Graph(x.g), sample.Refs(x.l)...); sample.Text(l...) != x.want || e != x.e {
			t.Error("Among", x, sample.Text(l...), e)
		}
	}
}

// The errors.
func TestFaults(t *testing.T) {
	for name, f := range map[string]func(g *deps.Graph) ([]api.Ref, api.Errno){"Loops": cycle.Loops, "Circular": cycle.Circular, "Order": cycle.Order, "Among": func(g *deps.Graph) ([]api.Ref, api.Errno) { return cycle.Among(g, api.Ref{}) }} {
		if l, e := f(nil); l != nil || e != api.ErrNil {
			t.Error(name, l, e)
		}
	}
	g := sample.Graph(example + ";B3 =A4")
	for _, at := range []api.Ref{{}, {Col: 1025, Row: 1}, {Col: 1, Row: math.MinInt}} {
		if l, e := cycle.Among(g, sample.Ref("A2"), at, sample.Ref("A4")); l != nil || e != api.ErrRange {
			t.Error("Among", at, l, e)
		}
		if l, e := cycle.Among(g, sample.Ref("A4"), at); l != nil || e != api.ErrCycle {
			t.Error("Among", at, l, e)
		}
	}
}

var inputs = []string{"", "5", "=A1", "=B2+C3", "=D4", "=SUM(A3:B4)", "=DSUM(B1:B2)", "=C1+A4", "=D1+D2", "=B3", "=7", "=9"}

// next returns the first of the cells that reaches none of the others.
func next(l []api.Ref, reaches func(a, b api.Ref) bool) api.Ref {
	i := slices.IndexFunc(l, func(a api.Ref) bool {
		return !slices.ContainsFunc(l, func(b api.Ref) bool { return reaches(a, b) })
	})
	return l[i]
}

// P26.1 to P26.6, against the definitions.
func TestRandom(t *testing.T) {
	r := rand.New(rand.NewSource(1))
	cells, _ := rect.Refs(api.Rect{C1: 1, R1: 1, C2: 4, R2: 4})
	for range 500 {
		g, _ := deps.New()
		for range r.Intn(16) {
			g.Set(cells[r.Intn(16)], inputs[r.Intn(len(inputs))])
		}
		below := map[api.Ref][]api.Ref{}
		for _, at := range cells {
			below[at], _ = reach.Below(g, at)
		}
		reaches := func(a, b api.Ref) bool { return slices.Contains(below[a], b) }
		var loops, circular, rest []api.Ref
		for _, at := range g.Formulas() {
			self := reaches(at, at)
			if self {
				loops = append(loops, at)
			}
			if self || slices.ContainsFunc(below[at], func(b api.Ref) bool { return reaches(b, b) }) {
				circular = append(circular, at)
			} else {
				rest = append(rest, at)
			}
		}
		if l, e := cycle.Loops(g); sample.Text(l...) != sample.Text(loops...) || e != api.OK {
			t.Fatal("Loops", sample.Text(l...), sample.Text(loops...), e)
		}
		if l, e := cycle.Circular(g); sample.Text(l...) != sample.Text(circular...) || e != api.OK {
			t.Fatal("Circular", sample.Text(l...), sample.Text(circular...), e)
		}
		check := func(some []api.Ref, got []api.Ref, e api.Errno) {
			left := slices.Clone(some)
			for i, at := range got {
				if want := next(left, reaches); at != want {
					t.Fatal("the order of evaluation:", sample.Text(some...), sample.Text(got...), "at", i, sample.Text(want))
				}
				left = slices.DeleteFunc(left, func(b api.Ref) bool { return b == at })
			}
			if len(left) > 0 || e != api.OK {
				t.Fatal("the order of evaluation:", sample.Text(some...), sample.Text(got...), e)
			}
		}
		l, e := cycle.Order(g)
		check(rest, l, e)
		var some []api.Ref
		for _, at := range rest {
			if r.Intn(2) == 0 {
				some = append(some, at)
			}
		}
		mixed := slices.Clone(some)
		r.Shuffle(len(mixed), func(i, k int) { mixed[i], mixed[k] = mixed[k], mixed[i] })
		l, e = cycle.Among(g, mixed...)
		check(some, l, e)
	}
}

// A long chain, and one that ends in a circle.
func TestDeep(t *testing.T) {
	g, _ := deps.New()
	const n = 20000
	at := func(i int) api.Ref { return api.Ref{Col: 1 + i%100, Row: 1 + i/100} }
	for i := range n {
		s, _ := addr.Format(at(i + 1))
		g.Set(at(i), "="+s)
	}
	if l, e := cycle.Order(g); len(l) != n || l[0] != at(n-1) || e != api.OK {
		t.Error("Order", len(l), e)
	}
	s, _ := addr.Format(at(n - 2))
	g.Set(at(n-1), "="+s)
	if l, e := cycle.Loops(g); len(l) != 2 || e != api.OK {
		t.Error("Loops", len(l), e)
	}
	if l, e := cycle.Circular(g); len(l) != n || e != api.OK {
		t.Error("Circular", len(l), e)
	}
}
