package flow_test

import (
	"math"
	"math/rand"
	"slices"
	"strconv"
	"testing"

	"louvre/acl"
	"louvre/addr"
	"louvre/api"
	"louvre/deps"
	"louvre/flow"
	"louvre/rect"
	"louvre/sample"
)

func graph(t *testing.T, b api.Book) *deps.Graph {
	t.Helper()
	g, e := deps.New(b.Entries...)
	if e != api.OK {
		t.Fatal(b.Entries, e)
	}
	return g
}

// The table of examples.
func TestExamples(t *testing.T) {
	b := sample.Granted()
	g := graph(t, b)
	for at, want := range map[string]uint64{"A1": 7, "A2": 1, "A3": 3, "A4": 3, "B3": 1, "C9": 7} {
		if l, e := flow.Label(g, sample.Ref(at), b.Rules, b.Grants); l != want || e != api.OK {
			t.Error("Label", at, l, e)
		}
	}
	for at, want := range map[string]uint64{"A3": 1, "A4": 1, "A2": 1} {
		if l, e := flow.Label(g, sample.Ref(at), b.Rules, nil); l != want || e != api.OK {
			t.Error("Label without the grant", at, l, e)
		}
	}
	marks := []api.Mark{{At: sample.Ref("A2"), Label: 1}, {At: sample.Ref("A3"), Label: 3}, {At: sample.Ref("A4"), Label: 3}}
	if l, e := flow.Labels(g, b.Rules, b.Grants); !slices.Equal(l, marks) || e != api.OK {
		t.Error("Labels", l, e)
	}
	for r, want := range map[string]uint64{"A1:A4": 1, "B1:B3": 1, "C1:C9": 7, "A3:A4": 3, "A1:AMJ1024": 1, "A1": 7} {
		if l, e := flow.Range(g, sample.Rect(r), b.Rules, b.Grants); l != want || e != api.OK {
			t.Error("Range", r, l, e)
		}
	}
	for _, x := range []struct {
		c    api.Call
		want uint64
		e    api.Errno
	}{{api.Call{At: sample.Ref("A3"), Node: 1}, 3, api.OK}, {api.Call{At: sample.Ref("A3")}, 0, api.ErrNone}, {api.Call{At: sample.Ref("A1")}, 0, api.ErrNone}, {api.Call{At: sample.Ref("A2"), Node: -1}, 0, api.ErrNone}, {api.Call{At: sample.Ref("A4"), Node: 2}, 0, api.ErrNone}, {api.Call{At: sample.Ref("A3"), Node: math.MaxInt}, 0, api.ErrNone}, {api.Call{At: sample.Ref("A3"), Node: math.MinInt}, 0, api.ErrNone}} {
		if l, e := flow.Call(g, x.c, b.Rules, b.Grants); l != x.want || e != x.e {
			t.Error("Call", x.c, l, e)
		}
	}
}

// S5: one use that is not released is enough, and the value of a released call may be hidden otherwise.
func TestUses(t *testing.T) {
	for input, want := range map[string]uint64{"=DSUM(B1:B3)": 3, "=DSUM(B1:B3)+B1": 1, "=DSUM(B1:B3)+DSUM(B1:B2)": 1, "=DCOUNT(B1:B3)": 1, "=SUM(B1:B3)": 1, "=DSUM(B1:B3)+DSUM(B1:B3)": 3, "=A1+DSUM(B1:B3)": 3, "=A2+DSUM(B1:B3)": 1, "=DSUM(A1:A4)": 1, "=C1": 7, "=SUM(B4:C9)": 7, "=5": 7} {
		b := sample.With(sample.Granted(), "C5 "+input)
		if l, e := flow.Label(graph(t, b), sample.Ref("C5"), b.Rules, b.Grants); l != want || e != api.OK {
			t.Error(input, l, e)
		}
	}
	// What is in the range of the grant does not matter, not even a formula that the user does not see.
	b := sample.With(sample.Granted(), "B3 =A2;A2 =B1")
	if l, _ := flow.Label(graph(t, b), sample.Ref("A4"), b.Rules, b.Grants); l != 3 {
		t.Error("a formula in the range of the grant:", l)
	}
}

// P27.1 to P27.8, against the definition and the equations.
func TestRandom(t *testing.T) {
	r := rand.New(rand.NewSource(1))
	for range 600 {
		b := sample.Random(r.Intn)
		g := graph(t, b)
		label := func(at api.Ref) uint64 {
			l, e := flow.Label(g, at, b.Rules, b.Grants)
			if e != api.OK {
				t.Fatal("Label", at, e)
			}
			return l
		}
		var marks []api.Mark
		for _, at := range sample.Cells() {
			want := uint64(0)
			for user := range b.Users {
				if sample.Sees(b, user, at) {
					want |= 1 << user
				}
			}
			if label(at) != want {
				t.Fatal("Label", b, at, label(at), want)
			}
			if _, ok := g.Tree(at); ok {
				marks = append(marks, api.Mark{At: at, Label: want})
			}
			checkEquations(t, g, b, at, label(at))
		}
		if l, e := flow.Labels(g, b.Rules, b.Grants); !slices.Equal(l, marks) || e != api.OK {
			t.Fatal("Labels", b, l, marks, e)
		}
		checkRange(t, g, b, sample.Rect("B1:B3"), label)
		checkRange(t, g, b, sample.Area(), label)
		checkMore(t, g, b, r, marks)
	}
}

// checkEquations checks P27.5 for an address.
func checkEquations(t *testing.T, g *deps.Graph, b api.Book, at api.Ref, label uint64) {
	rights, _ := acl.At(at, b.Rules...)
	want := rights.Read
	for _, u := range g.Uses(at) {
		part, e := flow.Range(g, u.Rect, b.Rules, b.Grants)
		if u.Fn != 0 {
			part, e = flow.Call(g, api.Call{At: at, Node: u.Node}, b.Rules, b.Grants)
		}
		if e != api.OK {
			t.Fatal("Range or Call", b, at, u, e)
		}
		want &= part
	}
	if label != want {
		t.Fatal("the equations of labels:", b, at, label, want)
	}
}

// checkRange checks Range for a range of the area of random books.
func checkRange(t *testing.T, g *deps.Graph, b api.Book, r api.Rect, label func(at api.Ref) uint64) {
	want := uint64(math.MaxUint64)
	for _, at := range sample.Cells() {
		if rect.Has(r, at) {
			want &= label(at)
		}
	}
	if l, e := flow.Range(g, r, b.Rules, b.Grants); l != want || e != api.OK {
		t.Fatal("Range", b, r, l, want, e)
	}
}

// checkMore checks that more readers and more grants take no user from a label, and that labels do not depend on constants.
func checkMore(t *testing.T, g *deps.Graph, b api.Book, r *rand.Rand, marks []api.Mark) {
	rules, grants := slices.Clone(b.Rules), slices.Clone(b.Grants)
	i := r.Intn(len(rules))
	rules[i].Rights.Read |= 1 << r.Intn(b.Users)
	fewer := slices.DeleteFunc(slices.Clone(grants), func(api.Grant) bool { return r.Intn(2) == 0 })
	more, _ := flow.Labels(g, rules, grants)
	less, _ := flow.Labels(g, b.Rules, fewer)
	for i, m := range marks {
		if m.Label&^more[i].Label != 0 || less[i].Label&^m.Label != 0 {
			t.Fatal("more readers or grants:", b, m, more[i], less[i])
		}
	}
	other := slices.Clone(b.Entries)
	for i, x := range other {
		if x.Input[0] != '=' {
			other[i].Input = "99"
		}
	}
	h, _ := deps.New(other...)
	if l, _ := flow.Labels(h, b.Rules, b.Grants); !slices.Equal(l, marks) {
		t.Fatal("labels depend on constants:", b)
	}
}

// The errors, in their order.
func TestFaults(t *testing.T) {
	b := sample.Granted()
	g, at, bad := graph(t, b), sample.Ref("A3"), api.Ref{Col: 1025, Row: 1}
	rules, grants := []api.Rule{b.Rules[0], {}}, []api.Grant{{}}
	for _, x := range []struct {
		g      *deps.Graph
		at     api.Ref
		rules  []api.Rule
		grants []api.Grant
		want   api.Errno
	}{
		{nil, bad, nil, grants, api.ErrNil}, {g, bad, nil, grants, api.ErrRange}, {g, at, nil, grants, api.ErrArg}, {g, at, rules, []api.Grant{{Rect: sample.Rect("A1")}}, api.ErrRange}, {g, at, slices.Repeat(b.Rules[:1], 65), nil, api.ErrLong}, {g, at, b.Rules, grants, api.ErrRange}, {g, at, b.Rules, []api.Grant{{Rect: sample.Rect("A1")}}, api.ErrArg}, {g, at, b.Rules, slices.Repeat(b.Grants, 65), api.ErrLong}, {g, sample.Ref("A1"), b.Rules, grants, api.ErrRange},
	} {
		if l, e := flow.Label(x.g, x.at, x.rules, x.grants); l != 0 || e != x.want {
			t.Error("Label", x, l, e)
		}
		if l, e := flow.Range(x.g, rect.One(x.at), x.rules, x.grants); l != 0 || e != x.want {
			t.Error("Range", x, l, e)
		}
		if l, e := flow.Call(x.g, api.Call{At: x.at, Node: 99}, x.rules, x.grants); l != 0 || e != x.want {
			t.Error("Call", x, l, e)
		}
		if x.at != bad || x.g == nil {
			if l, e := flow.Labels(x.g, x.rules, x.grants); l != nil || e != x.want {
				t.Error("Labels", x, l, e)
			}
		}
	}
	if l, e := flow.Range(g, api.Rect{C1: 2, R1: 1, C2: 1, R2: 1}, b.Rules, b.Grants); l != 0 || e != api.ErrRange {
		t.Error("Range", l, e)
	}
}

// A long chain that ends at an address that only one user may read.
func TestDeep(t *testing.T) {
	const n = 20000
	at := func(i int) api.Ref { return api.Ref{Col: 1 + i%100, Row: 1 + i/100} }
	g, _ := deps.New()
	for i := range n {
		s, _ := addr.Format(at(i + 1))
		if i == n/2 {
			s += "+" + strconv.Itoa(i)
		}
		g.Set(at(i), "="+s)
	}
	rules := []api.Rule{sample.Rule("A1:AMJ1024", 3, 3, 1), {Rect: rect.One(at(n)), Rights: api.Rights{Read: 2}}}
	l, e := flow.Labels(g, rules, nil)
	if len(l) != n || e != api.OK || slices.ContainsFunc(l, func(m api.Mark) bool { return m.Label != 2 }) {
		t.Error("Labels of a chain:", len(l), e)
	}
}
