package calc_test

import (
	"math"
	"math/rand"
	"slices"
	"strings"
	"testing"

	"louvre/acl"
	"louvre/addr"
	"louvre/api"
	"louvre/book"
	"louvre/calc"
	"louvre/denote"
	"louvre/entry"
	"louvre/grant"
	"louvre/rect"
	"louvre/sample"
	"louvre/val"
)

func engine(t *testing.T, b api.Book) *calc.Engine {
	t.Helper()
	g, e := calc.New(b)
	if e != api.OK {
		t.Fatal(b, e)
	}
	return g
}

func same(a, b api.Valuation) bool {
	return slices.Equal(a.Cells, b.Cells) && slices.Equal(a.Marks, b.Marks) && slices.Equal(a.Circular, b.Circular) && slices.Equal(a.Shown, b.Shown)
}

func number(n int64) api.Value { return val.Make(n * api.Unit) }

// The table of examples.
func TestExamples(t *testing.T) {
	g := engine(t, sample.Book())
	value := func(at string, want api.Value) {
		t.Helper()
		if v, e := g.Value(sample.Ref(at)); v != want || e != api.OK {
			t.Error("Value", at, v, e)
		}
	}
	label := func(at string, want uint64) {
		t.Helper()
		if l, e := g.Label(sample.Ref(at)); l != want || e != api.OK {
			t.Error("Label", at, l, e)
		}
	}
	set := func(at, input, want string) {
		t.Helper()
		if l, e := g.Set(sample.Ref(at), input); sample.Text(l...) != want || e != api.OK {
			t.Error("Set", at, input, sample.Text(l...), e)
		}
	}
	value("A2", number(15))
	value("A3", number(30))
	value("A4", number(31))
	value("C1", api.Value{})
	label("A2", 1)
	label("A1", 7)
	if n := g.Evaluations(); n != 0 {
		t.Error("Evaluations", n)
	}
	if e := g.Grant(sample.Grant()); e != api.OK {
		t.Error("Grant", e)
	}
	label("A4", 3)
	set("B2", "25", "A3 A4")
	value("A4", number(36))
	set("B3", "=A4", "")
	for _, at := range []string{"A3", "A4", "B3"} {
		value(at, val.Fail(api.Cycle))
	}
	if n := g.Evaluations(); n != 2 {
		t.Error("Evaluations", n)
	}
	if l, e := g.Clear(sample.Rect("B3:C9")); sample.Text(l...) != "A3 A4" || e != api.OK {
		t.Error("Clear", sample.Text(l...), e)
	}
	value("A4", number(36))
	set("A1", "7", "A2")
	_, _, want := entry.Of("=")
	if l, e := g.Set(sample.Ref("A1"), "="); l != nil || e != want {
		t.Error("Set", l, e)
	}
	if l, e := g.Clear(api.Rect{C1: 1, C2: 2, R2: 1}); l != nil || e != api.ErrRange {
		t.Error("Clear", l, e)
	}
	for i, want := range []api.Errno{api.OK, api.ErrState, api.ErrNone, api.ErrNone} {
		if e := g.Revoke([]int{0, 0, 1, -1}[i]); e != want {
			t.Error("Revoke", i, e)
		}
	}
	label("A4", 1)
	if n := g.Evaluations(); n != 5 {
		t.Error("Evaluations", n)
	}
}

// P33.1 to P33.4: errors; a call that returns one has no effect.
func TestFaults(t *testing.T) {
	b := sample.Granted()
	g := engine(t, b)
	before := g.Valuation()
	for _, at := range []api.Ref{{}, {Col: 1025, Row: 1}, {Col: 1, Row: math.MinInt}} {
		if l, e := g.Set(at, "="); l != nil || e != api.ErrRange {
			t.Error("Set", at, l, e)
		}
		if v, e := g.Value(at); v != (api.Value{}) || e != api.ErrRange {
			t.Error("Value", at, v, e)
		}
		if l, e := g.Label(at); l != 0 || e != api.ErrRange {
			t.Error("Label", at, l, e)
		}
		if l, e := g.Clear(rect.One(at)); l != nil || e != api.ErrRange {
			t.Error("Clear", at, l, e)
		}
	}
	for _, s := range []string{"=1+", "=FOO(1)", "\n", strings.Repeat("x", 257), "=ABS()"} {
		_, _, want := entry.Of(s)
		if l, e := g.Set(sample.Ref("A1"), s); l != nil || e != want {
			t.Error("Set", s, l, e)
		}
	}
	for _, r := range []api.Rule{{}, {Rect: sample.Rect("A1"), Rights: api.Rights{Read: 8}}} {
		if _, want := acl.Check(3, append(slices.Clone(b.Rules), r)...); g.Rule(r) != want || want == api.OK {
			t.Error("Rule", r)
		}
	}
	for _, x := range []api.Grant{{}, {Rect: sample.Rect("A1")}, {Rect: sample.Rect("A1"), Fns: 1, To: 8}, {Rect: sample.Rect("A1"), Fns: 1, By: 3}} {
		if _, want := grant.Check(3, append(slices.Clone(b.Grants), x)...); g.Grant(x) != want || want == api.OK {
			t.Error("Grant", x)
		}
	}
	if !same(g.Valuation(), before) || g.Evaluations() != 0 {
		t.Error("errors have effects")
	}
	bad := sample.Book()
	bad.Step = -1
	for _, b := range []api.Book{{}, bad} {
		if g, e := calc.New(b); g != nil || e != book.Check(b) {
			t.Error("New", g, e)
		}
	}
	for i := 2; i <= 65; i++ {
		want := api.OK
		if i == 65 {
			want = api.ErrLong
		}
		if e := g.Grant(sample.Grant()); e != want {
			t.Error("Grant", i, e)
		}
		if e := g.Rule(sample.Rule("Z9", 1, 1, 1)); i < 65 && i > 63 && e != api.ErrLong {
			t.Error("Rule", i, e)
		}
	}
}

// R5
func TestNil(t *testing.T) {
	for _, g := range []*calc.Engine{nil, {}} {
		if l, e := g.Set(api.Ref{}, "="); l != nil || e != api.ErrNil {
			t.Error("Set", l, e)
		}
		if l, e := g.Clear(api.Rect{}); l != nil || e != api.ErrNil {
			t.Error("Clear", l, e)
		}
		if g.Rule(api.Rule{}) != api.ErrNil || g.Grant(api.Grant{}) != api.ErrNil || g.Revoke(-1) != api.ErrNil {
			t.Error("Rule, Grant, Revoke")
		}
		if v, e := g.Value(api.Ref{}); v != (api.Value{}) || e != api.ErrNil {
			t.Error("Value", v, e)
		}
		if l, e := g.Label(api.Ref{}); l != 0 || e != api.ErrNil {
			t.Error("Label", l, e)
		}
		if !same(g.Valuation(), api.Valuation{}) || g.Evaluations() != 0 {
			t.Error("Valuation, Evaluations")
		}
	}
}

// P33.2 to P33.8: after any calls everything is as if anew.
func TestRandom(t *testing.T) {
	r := rand.New(rand.NewSource(1))
	for range 30 {
		b := sample.Random(r.Intn)
		g := engine(t, b)
		evaluations := 0
		for range 25 {
			x := sample.Op(r.Intn, b.Users)
			before := g.Valuation()
			var got, want []api.Ref
			e := api.OK
			switch x.Kind {
			case api.OpSet:
				got, e = g.Set(api.Ref{Col: x.Rect.C2, Row: x.Rect.R2}, x.Input)
				if name, f := rect.Format(x.Rect); e == api.OK && f == api.OK {
					b = sample.With(b, name+" "+x.Input)
					want = sample.Due(b, x.Rect)
				}
			case api.OpClear:
				got, e = g.Clear(x.Rect)
				if e == api.OK {
					b.Entries = slices.DeleteFunc(slices.Clone(b.Entries), func(y api.Entry) bool { return rect.Has(x.Rect, y.At) })
					want = sample.Due(b, x.Rect)
				}
			case api.OpRule:
				if e = g.Rule(api.Rule{Rect: x.Rect, Rights: x.Rights}); e == api.OK {
					b.Rules = append(slices.Clone(b.Rules), api.Rule{Rect: x.Rect, Rights: x.Rights})
				}
			case api.OpGrant:
				y := api.Grant{Rect: x.Rect, Fns: x.Fns, To: x.To, By: x.User}
				if e = g.Grant(y); e == api.OK {
					b.Grants = append(slices.Clone(b.Grants), y)
				}
			case api.OpRevoke:
				if e = g.Revoke(x.Index); e == api.OK {
					b.Grants = slices.Clone(b.Grants)
					b.Grants[x.Index].Revoked = true
				}
			}
			evaluations += len(want)
			after := g.Valuation()
			if anew, _ := denote.Book(b); !same(after, anew) || e != api.OK && !same(after, before) {
				t.Fatal("Valuation", b, x, after, anew)
			}
			if !slices.Equal(got, want) || g.Evaluations() != evaluations {
				t.Fatal("the cells that were evaluated:", b, x, sample.Text(got...), sample.Text(want...))
			}
			checkAddresses(t, g, b)
		}
	}
}

// checkAddresses checks Value and Label for all addresses of the area of random books.
func checkAddresses(t *testing.T, g *calc.Engine, b api.Book) {
	for _, at := range sample.Cells() {
		v, e := g.Value(at)
		l, f := g.Label(at)
		label, _ := denote.Label(b, at)
		value, _ := denote.Value(b, at)
		if v != value || e != api.OK || l != label || f != api.OK {
			t.Fatal("Value or Label", b, at, v, value, l, label)
		}
	}
}

// P33.8, P33.9: the same input, and entries in another order.
func TestOrder(t *testing.T) {
	r := rand.New(rand.NewSource(2))
	for range 100 {
		b := sample.Random(r.Intn)
		want := engine(t, b).Valuation()
		empty := b
		empty.Entries = nil
		g := engine(t, empty)
		for _, i := range r.Perm(len(b.Entries)) {
			g.Set(b.Entries[i].At, b.Entries[i].Input)
		}
		if !same(g.Valuation(), want) {
			t.Fatal("entries in another order:", b)
		}
		for _, x := range b.Entries {
			if l, e := g.Set(x.At, x.Input); e != api.OK || !slices.Equal(l, sample.Due(b, rect.One(x.At))) || !same(g.Valuation(), want) {
				t.Fatal("the same input:", b, x, sample.Text(l...), e)
			}
		}
	}
}

// R3: an engine does not share memory with the book.
func TestMemory(t *testing.T) {
	b := sample.Granted()
	g := engine(t, b)
	want := g.Valuation()
	b.Rules[1].Rights.Read = 7
	b.Grants[0].Revoked = true
	b.Entries[0].Input = "99"
	v := g.Valuation()
	v.Cells[0].V = number(1)
	g.Set(sample.Ref("Z9"), "1")
	g.Set(sample.Ref("Z9"), "")
	if !same(g.Valuation(), want) {
		t.Error("the engine shares memory")
	}
}

// A long chain: one change evaluates it once, a change at its end only the cells behind.
func TestChain(t *testing.T) {
	const n = 5000
	at := func(i int) api.Ref { return api.Ref{Col: 1 + i%100, Row: 1 + i/100} }
	b := sample.Book()
	b.Entries = []api.Entry{{At: at(0), Input: "1"}}
	for i := 1; i < n; i++ {
		s, _ := addr.Format(at(i - 1))
		b.Entries = append(b.Entries, api.Entry{At: at(i), Input: "=" + s + "+1"})
	}
	g := engine(t, b)
	l, e := g.Set(at(0), "5")
	if len(l) != n-1 || l[0] != at(1) || e != api.OK {
		t.Error("Set", len(l), e)
	}
	if v, _ := g.Value(at(n - 1)); v != number(n+4) {
		t.Error("Value", v)
	}
	if l, e := g.Set(at(n-3), "0"); len(l) != 2 || e != api.OK {
		t.Error("Set", len(l), e)
	}
	s, _ := addr.Format(at(n - 1))
	if l, e := g.Set(at(0), "="+s); len(l) != n-3 || e != api.OK {
		t.Error("Set", len(l), e)
	}
	if l, e := g.Set(at(n-3), "=IFERROR("+b.Entries[n-3].Input[1:]+",0)"); l != nil || e != api.OK {
		t.Error("Set", len(l), e)
	}
	if v, _ := g.Value(at(7)); v != val.Fail(api.Cycle) || len(g.Valuation().Circular) != n {
		t.Error("Value", v)
	}
}
