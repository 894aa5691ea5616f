package denote_test

import (
	"math"
	"math/rand"
	"slices"
	"testing"

	"louvre/api"
	"louvre/book"
	"louvre/denote"
	"louvre/deps"
	"louvre/entry"
	"louvre/eval"
	"louvre/reach"
	"louvre/rect"
	"louvre/refs"
	"louvre/sample"
	"louvre/sheet"
	"louvre/val"
)

func number(n int64) api.Value { return val.Make(n * api.Unit) }

func valuation(t *testing.T, b api.Book) api.Valuation {
	t.Helper()
	v, e := denote.Book(b)
	if e != api.OK {
		t.Fatal(b, e)
	}
	return v
}

// The table of examples.
func TestExamples(t *testing.T) {
	b := sample.Book()
	v := valuation(t, b)
	cells := []api.Cell{}
	for i, s := range []string{"A1", "B1", "A2", "B2", "A3", "A4"} {
		cells = append(cells, api.Cell{At: sample.Ref(s), V: number([]int64{5, 10, 15, 20, 30, 31}[i])})
	}
	labels := func(v api.Valuation) []uint64 {
		var l []uint64
		for i, m := range v.Marks {
			if m.At != b.Entries[i].At {
				t.Fatal("Marks", v.Marks)
			}
			l = append(l, m.Label)
		}
		return l
	}
	if !slices.Equal(v.Cells, cells) || !slices.Equal(labels(v), []uint64{7, 1, 1, 1, 1, 1}) || v.Circular != nil || v.Shown != nil {
		t.Error("Book", v)
	}
	b = sample.Granted()
	v = valuation(t, b)
	shown := api.Shown{Call: api.Call{At: sample.Ref("A3"), Node: 1}, V: number(30), To: 2}
	if !slices.Equal(v.Cells, cells) || !slices.Equal(labels(v), []uint64{7, 1, 1, 1, 3, 3}) || !slices.Equal(v.Shown, []api.Shown{shown}) {
		t.Error("Book with the grant", v)
	}
	b = sample.With(b, "B3 =A4")
	v = valuation(t, b)
	shown.V = val.Fail(api.Cycle)
	if sample.Text(v.Circular...) != "A3 B3 A4" || !slices.Equal(v.Shown, []api.Shown{shown}) {
		t.Error("Book with a cycle", v)
	}
	if x, e := denote.Value(b, sample.Ref("C7")); x != (api.Value{}) || e != api.OK {
		t.Error("Value", x, e)
	}
	if l, e := denote.Label(b, sample.Ref("C7")); l != 7 || e != api.OK {
		t.Error("Label", l, e)
	}
}

// S8: the value of a call over a range with a circular cell, and with other errors.
func TestShown(t *testing.T) {
	for s, want := range map[string]api.Value{"C1 #N/A;C2 =C2": val.Fail(api.Cycle), "C1 =C2;C2 =C1": val.Fail(api.Cycle), "C1 #N/A": val.Fail(api.NA), "C1 7;C2 x": number(7), "C3 =C3": val.Make(0)} {
		b := sample.With(sample.Book(), s+";D1 =IFERROR(DSUM(C1:C2),5)")
		b.Grants = []api.Grant{{Rect: sample.Rect("C1:C2"), Fns: 1, To: 4}, {Rect: sample.Rect("C1:C2"), Fns: 3, To: 1}, {Rect: sample.Rect("C1:C2"), Fns: 31, To: 2, By: 1}}
		v := valuation(t, b)
		if !slices.Equal(v.Shown, []api.Shown{{Call: api.Call{At: sample.Ref("D1"), Node: 1}, V: want, To: 5}}) {
			t.Error("Shown", s, v.Shown)
		}
	}
	b := sample.Book()
	b.Grants = []api.Grant{{Rect: sample.Rect("B1:B3"), Fns: 1}}
	if v := valuation(t, b); v.Shown != nil {
		t.Error("a call that is released to nobody:", v.Shown)
	}
	b = sample.With(sample.Granted(), "A1 =DSUM(B1:B3)+DSUM(B1:B3);C1 =DCOUNT(B1:B3)")
	v := valuation(t, b)
	var calls []api.Call
	for _, x := range v.Shown {
		calls = append(calls, x.Call)
	}
	if !slices.Equal(calls, []api.Call{{At: sample.Ref("A1"), Node: 1}, {At: sample.Ref("A1"), Node: 3}, {At: sample.Ref("A3"), Node: 1}}) {
		t.Error("the order of Shown:", v.Shown)
	}
}

// value is the value of an address as S4 says, computed anew for each use.
func value(b api.Book, g *deps.Graph, at api.Ref) api.Value {
	input, _ := book.Input(b, at)
	m, _, _ := entry.Of(input)
	if !m.Formula {
		return m.V
	}
	below, _ := reach.Below(g, at)
	for _, c := range append(below, at) {
		if self, _ := reach.Reaches(g, c, c); self {
			return val.Fail(api.Cycle)
		}
	}
	s, _ := sheet.New()
	for _, c := range sample.Cells() {
		if used, _ := refs.Touches(m.Tree, rect.One(c)); used {
			s.Set(c, value(b, g, c))
		}
	}
	v, _ := eval.Value(m.Tree, s)
	return v
}

// P32.1 to P32.6
func TestRandom(t *testing.T) {
	r := rand.New(rand.NewSource(1))
	for range 150 {
		b := sample.Random(r.Intn)
		g, _ := deps.New(b.Entries...)
		before := book.Copy(b)
		v := valuation(t, b)
		if !book.Equal(b, before) {
			t.Fatal("Book changes its argument")
		}
		if len(v.Cells) != len(b.Entries) || len(v.Marks) != len(b.Entries) {
			t.Fatal("Book", b, v)
		}
		all, _ := sheet.New(v.Cells...)
		for i, x := range b.Entries {
			c := v.Cells[i]
			if c.At != x.At || c.V != value(b, g, x.At) || val.Check(c.V) != api.OK || v.Marks[i].At != x.At {
				t.Fatal("Cells", b, c, value(b, g, x.At))
			}
			if circular := slices.Contains(v.Circular, x.At); circular != (c.V == val.Fail(api.Cycle)) {
				t.Fatal("Circular", b, v.Circular, c)
			}
			if tree, ok := g.Tree(x.At); ok && !slices.Contains(v.Circular, x.At) {
				if w, _ := eval.Value(tree, all); w != c.V {
					t.Fatal("the value of a formula on the sheet of all cells:", b, c, w)
				}
			}
		}
		for _, at := range sample.Cells() {
			if x, e := denote.Value(b, at); x != value(b, g, at) || e != api.OK {
				t.Fatal("Value", b, at, x, e)
			}
			l, e := denote.Label(b, at)
			for user := range b.Users {
				if l>>user&1 == 1 != sample.Sees(b, user, at) || e != api.OK {
					t.Fatal("Label", b, at, l, e)
				}
			}
			if i := slices.IndexFunc(v.Marks, func(m api.Mark) bool { return m.At == at }); i >= 0 && v.Marks[i].Label != l {
				t.Fatal("Marks", b, at, l)
			}
		}
		checkShown(t, b, g, v, all)
		checkLocal(t, b, g, v, r)
	}
}

// checkShown checks which calls are shown, and their values.
func checkShown(t *testing.T, b api.Book, g *deps.Graph, v api.Valuation, all *sheet.Sheet) {
	var want []api.Shown
	for _, at := range g.Formulas() {
		tree, _ := g.Tree(at)
		for _, u := range g.Uses(at) {
			x := api.Shown{Call: api.Call{At: at, Node: u.Node}}
			for user := range b.Users {
				if u.Fn != 0 && sample.Released(b, user, u) {
					x.To |= 1 << user
				}
			}
			if x.To == 0 {
				continue
			}
			x.V, _ = eval.Node(tree, u.Node, all)
			if slices.ContainsFunc(v.Circular, func(c api.Ref) bool { return rect.Has(u.Rect, c) }) {
				x.V = val.Fail(api.Cycle)
			}
			want = append(want, x)
		}
	}
	if !slices.Equal(v.Shown, want) {
		t.Fatal("Shown", b, v.Shown, want)
	}
}

// checkLocal checks that values and labels depend on nothing else than P32.4 and P32.6 say.
func checkLocal(t *testing.T, b api.Book, g *deps.Graph, v api.Valuation, r *rand.Rand) {
	at := sample.Cells()[r.Intn(20)]
	name, _ := rect.Format(rect.One(at))
	w := valuation(t, sample.With(b, name+" =A1+D4"))
	for i, c := range v.Cells {
		if reaches, _ := reach.Reaches(g, c.At, at); reaches || c.At == at {
			continue
		}
		k := slices.IndexFunc(w.Cells, func(d api.Cell) bool { return d.At == c.At })
		if w.Cells[k] != c || w.Marks[k] != v.Marks[i] {
			t.Fatal("a change elsewhere:", b, at, c)
		}
	}
	other := book.Copy(b)
	other.Rules, other.Grants = other.Rules[:1], nil
	if w := valuation(t, other); !slices.Equal(w.Cells, v.Cells) || !slices.Equal(w.Circular, v.Circular) {
		t.Fatal("rules and grants change values:", b)
	}
}

// The errors.
func TestFaults(t *testing.T) {
	for _, at := range []api.Ref{{}, {Col: 1025, Row: 1}, {Col: 1, Row: math.MinInt}} {
		bad := sample.Book()
		bad.Step = -1
		for _, b := range []api.Book{{}, bad} {
			want := book.Check(b)
			if v, e := denote.Book(b); v.Cells != nil || v.Marks != nil || v.Circular != nil || v.Shown != nil || e != want {
				t.Error("Book", v, e)
			}
			if v, e := denote.Value(b, at); v != (api.Value{}) || e != want {
				t.Error("Value", v, e)
			}
			if l, e := denote.Label(b, at); l != 0 || e != want {
				t.Error("Label", l, e)
			}
		}
		if v, e := denote.Value(sample.Book(), at); v != (api.Value{}) || e != api.ErrRange {
			t.Error("Value", at, v, e)
		}
		if l, e := denote.Label(sample.Book(), at); l != 0 || e != api.ErrRange {
			t.Error("Label", at, l, e)
		}
	}
}
