package why_test

import (
	"math"
	"math/rand"
	"slices"
	"testing"

	"louvre/api"
	"louvre/book"
	"louvre/deps"
	"louvre/reach"
	"louvre/rect"
	"louvre/sample"
	"louvre/why"
)

func calls(s ...api.Call) []api.Call { return s }

func call(at string, node int) api.Call { return api.Call{At: sample.Ref(at), Node: node} }

func same(a, b api.Reason) bool {
	return a.Sees == b.Sees && slices.Equal(a.Path, b.Path) && slices.Equal(a.Cuts, b.Cuts)
}

// The table of examples.
func TestExamples(t *testing.T) {
	b := sample.Granted()
	for i, x := range []struct {
		user     int
		at, path string
		cuts     []api.Call
	}{
		{1, "A2", "A2 B1", nil}, {1, "A4", "", calls(call("A3", 1))}, {2, "A4", "A4 A3 B1", nil}, {0, "A4", "", nil}, {1, "A1", "", nil}, {1, "B2", "B2", nil}, {2, "B3", "B3", nil}, {1, "C7", "", nil}, {1, "A3", "", calls(call("A3", 1))}, {2, "A3", "A3 B1", nil},
	} {
		want := api.Reason{Sees: x.path == "", Path: sample.Refs(x.path), Cuts: x.cuts}
		r, e := why.Reason(x.user, sample.Ref(x.at), b)
		if !same(r, want) || e != api.OK {
			t.Error("Reason", i, r, e)
		}
		if e := why.Check(x.user, sample.Ref(x.at), b, r); e != api.OK {
			t.Error("Check", i, e)
		}
	}
	for at, want := range map[string]string{"A4": "B1:B3", "A2": "B1", "A1": "", "B1": "", "C7": ""} {
		l, e := why.Hidden(1, sample.Ref(at), b)
		got := ""
		for _, r := range l {
			s, _ := rect.Format(r)
			got += s
		}
		if got != want || e != api.OK {
			t.Error("Hidden", at, got, e)
		}
	}
	for i, x := range []struct {
		at   string
		r    api.Reason
		want api.Errno
	}{
		{"A2", api.Reason{Path: sample.Refs("A2 B2")}, api.ErrNone}, {"A2", api.Reason{}, api.ErrForm}, {"A2", api.Reason{Path: sample.Refs("A2 B1")}, api.OK}, {"A2", api.Reason{Path: sample.Refs("A2 A1")}, api.ErrNone}, {"A2", api.Reason{Path: sample.Refs("A2")}, api.ErrNone}, {"A2", api.Reason{Path: sample.Refs("A4 A3 B1")}, api.ErrForm}, {"A2", api.Reason{Path: sample.Refs("A2 B1"), Cuts: calls(call("A3", 1))}, api.ErrForm}, {"A2", api.Reason{Sees: true}, api.ErrNone}, {"A2", api.Reason{Sees: true, Path: sample.Refs("A2 B1")}, api.ErrForm}, {"A2", api.Reason{Path: []api.Ref{sample.Ref("A2"), {Col: 0, Row: 1}}}, api.ErrNone}, {"A2", api.Reason{Path: sample.Refs("A2 B1 B1")}, api.ErrNone},
		{"A4", api.Reason{Sees: true, Cuts: calls(call("A3", 1))}, api.OK}, {"A4", api.Reason{Sees: true}, api.ErrNone}, {"A4", api.Reason{Sees: true, Cuts: calls(call("A3", 1), call("A3", 1))}, api.ErrNone}, {"A4", api.Reason{Sees: true, Cuts: calls(call("A4", 1))}, api.ErrNone}, {"A4", api.Reason{Path: sample.Refs("A4 A3 B1")}, api.ErrNone}, {"A4", api.Reason{Sees: true, Path: sample.Refs("A4")}, api.ErrForm},
		{"B1", api.Reason{Path: sample.Refs("B1")}, api.OK}, {"A1", api.Reason{Sees: true}, api.OK}, {"A1", api.Reason{Path: sample.Refs("A1")}, api.ErrNone},
	} {
		if e := why.Check(1, sample.Ref(x.at), b, x.r); e != x.want {
			t.Error("Check", i, e, "want", x.want)
		}
	}
}

// P40.1: shortest ways, the first of them, and cuts that hide nothing.
func TestReasons(t *testing.T) {
	b := sample.With(sample.Granted(), "C1 =D1+D2;D1 =B2;D2 =B1;C2 =D2+D1+B3;C3 =SUM(A1:B2);C4 =DSUM(B1:B3)+C1;C5 =DSUM(B1:B3)+DSUM(C8:C9);C8 =DSUM(B1:B3);D3 =DSUM(D8:D9);D5 =D5+B1;D4 =SUM(B3:B9,B2)")
	b.Grants = append(b.Grants, api.Grant{Rect: sample.Rect("C8:C9"), Fns: 1, To: 2}, api.Grant{Rect: sample.Rect("D8:D9"), Fns: 1, To: 2})
	for at, want := range map[string]api.Reason{
		"C1": {Path: sample.Refs("C1 D1 B2")}, "C2": {Path: sample.Refs("C2 B3")}, "C3": {Path: sample.Refs("C3 B1")}, "C4": {Path: sample.Refs("C4 C1 D1 B2")}, "D5": {Path: sample.Refs("D5 B1")}, "D4": {Path: sample.Refs("D4 B2")},
		"C5": {Sees: true, Cuts: calls(call("C5", 1), call("C5", 3))}, "C8": {Sees: true, Cuts: calls(call("C8", 1))}, "D3": {Sees: true},
	} {
		if r, e := why.Reason(1, sample.Ref(at), b); !same(r, want) || e != api.OK {
			t.Error("Reason", at, r, e)
		}
	}
}

// P40.3: bands.
func TestHidden(t *testing.T) {
	b := sample.Book()
	b.Rules = append(b.Rules, sample.Rule("D2:F4", 1, 0, 0), sample.Rule("E3", 7, 0, 0), sample.Rule("H1:H9", 5, 0, 0), sample.Rule("G4", 0, 0, 0))
	b = sample.With(b, "A9 =SUM(D1:G5)+E9;E9 =MAX(B1:B2,D3:D4)+D2;Z9 =SUM(A1:AMJ1024)")
	for at, want := range map[string]string{"A9": "B1 B2 D2 E2 F2 D3 F3 D4 E4 F4 G4", "E9": "B1 B2 D2 D3 D4"} {
		l, e := why.Hidden(1, sample.Ref(at), b)
		var refs []api.Ref
		for _, r := range l {
			x, _ := rect.Refs(r)
			refs = append(refs, x...)
		}
		slices.SortFunc(refs, func(a, b api.Ref) int { return (a.Row-b.Row)*2000 + a.Col - b.Col })
		if sample.Text(refs...) != want || e != api.OK {
			t.Error("Hidden", at, sample.Text(refs...), e)
		}
	}
	l, e := why.Hidden(1, sample.Ref("A9"), b)
	var words []string
	for _, r := range l {
		s, _ := rect.Format(r)
		words = append(words, s)
	}
	if !slices.Equal(words, []string{"B1", "B2", "D2:F2", "D3", "F3", "D4:G4"}) || e != api.OK {
		t.Error("Hidden", words, e)
	}
	l, e = why.Hidden(1, sample.Ref("Z9"), b)
	words = nil
	for _, r := range l {
		s, _ := rect.Format(r)
		words = append(words, s)
	}
	if !slices.Equal(words, []string{"B1", "H1", "B2", "D2:F2", "H2", "B3", "D3", "F3", "H3", "D4:H4", "H5:H9"}) || e != api.OK {
		t.Error("Hidden", words, e)
	}
}

// The errors, in their order.
func TestFaults(t *testing.T) {
	good, bad := sample.Book(), sample.Book()
	bad.Entries[0].Input = "=("
	at, outside := sample.Ref("A1"), api.Ref{Col: 1, Row: 1025}
	for i, x := range []struct {
		user int
		at   api.Ref
		b    api.Book
		want api.Errno
	}{{9, outside, bad, api.ErrForm}, {0, at, api.Book{}, api.ErrArg}, {3, outside, good, api.ErrArg}, {-1, outside, good, api.ErrArg}, {math.MinInt, at, good, api.ErrArg}, {0, outside, good, api.ErrRange}, {0, api.Ref{}, good, api.ErrRange}} {
		if r, e := why.Reason(x.user, x.at, x.b); !same(r, api.Reason{}) || e != x.want {
			t.Error("Reason", i, r, e)
		}
		if e := why.Check(x.user, x.at, x.b, api.Reason{}); e != x.want {
			t.Error("Check", i, e)
		}
		if l, e := why.Hidden(x.user, x.at, x.b); l != nil || e != x.want {
			t.Error("Hidden", i, l, e)
		}
	}
}

// asker answers questions about a book by trying all ways.
type asker struct {
	b    api.Book
	g    *deps.Graph
	user int
}

func (q asker) open(a, b api.Ref) bool {
	return slices.ContainsFunc(q.g.Uses(a), func(u api.Use) bool {
		return rect.Has(u.Rect, b) && (u.Fn == 0 || !sample.Released(q.b, q.user, u))
	})
}

// first returns the first way with n addresses that hides an address.
func (q asker) first(at api.Ref, n int) []api.Ref {
	if n == 1 {
		if sample.Reads(q.b, q.user, at) {
			return nil
		}
		return []api.Ref{at}
	}
	if !sample.Reads(q.b, q.user, at) {
		return nil
	}
	for _, next := range sample.Cells() {
		if q.open(at, next) {
			if way := q.first(next, n-1); way != nil {
				return append([]api.Ref{at}, way...)
			}
		}
	}
	return nil
}

// cuts returns the cuts as the chapter defines them.
func (q asker) cuts(at api.Ref) []api.Call {
	on := map[api.Ref]bool{at: true}
	for range sample.Cells() {
		for a := range on {
			for _, c := range q.g.Formulas() {
				if !on[c] && q.open(a, c) {
					on = with(on, c)
				}
			}
		}
	}
	var l []api.Call
	for _, a := range q.g.Formulas() {
		for _, u := range q.g.Uses(a) {
			if !on[a] || u.Fn == 0 || !sample.Released(q.b, q.user, u) {
				continue
			}
			hides := slices.ContainsFunc(sample.Cells(), func(c api.Ref) bool {
				if !rect.Has(u.Rect, c) {
					return false
				}
				return !sample.Reads(q.b, q.user, c) || slices.ContainsFunc(sample.Cells(), func(d api.Ref) bool {
					reaches, _ := reach.Reaches(q.g, c, d)
					return reaches && !sample.Reads(q.b, q.user, d)
				})
			})
			if hides {
				l = append(l, api.Call{At: a, Node: u.Node})
			}
		}
	}
	return l
}

// with returns a set with one more address.
func with(set map[api.Ref]bool, at api.Ref) map[api.Ref]bool {
	more := map[api.Ref]bool{at: true}
	for a := range set {
		more[a] = true
	}
	return more
}

// P40.1 to P40.7
func TestRandom(t *testing.T) {
	r := rand.New(rand.NewSource(1))
	seen, hidden, cut := 0, 0, 0
	for range 60 {
		b := sample.Random(r.Intn)
		user := r.Intn(b.Users)
		if area := []string{"A1:B2", "B1:B3", "C1"}[r.Intn(3)]; b.Users > 1 && r.Intn(3) > 0 {
			other := (user + 1) % b.Users
			b.Rules = append(b.Rules, sample.Rule(area, 1<<other, 1<<other, 1<<other))
			b.Grants = append(b.Grants, api.Grant{Rect: sample.Rect(area), Fns: 31, To: 1 << user, By: other})
		}
		g, _ := deps.New(b.Entries...)
		q := asker{b, g, user}
		for _, at := range sample.Cells() {
			reason, e := why.Reason(user, at, b)
			sees := sample.Sees(b, user, at)
			want := api.Reason{Sees: sees}
			if sees {
				seen++
				want.Cuts = q.cuts(at)
				cut += len(want.Cuts)
			} else {
				hidden++
				for n := 1; want.Path == nil; n++ {
					want.Path = q.first(at, n)
				}
			}
			if !same(reason, want) || e != api.OK {
				t.Fatal("Reason", b, user, at, reason, want, e)
			}
			if e := why.Check(user, at, b, reason); e != api.OK {
				t.Fatal("Check", b, user, at, reason, e)
			}
			if e := why.Check(user, at, b, api.Reason{Sees: !sees, Path: reason.Path, Cuts: reason.Cuts}); e == api.OK {
				t.Fatal("Check accepts a reason with the other Sees:", b, user, at)
			}
			checkHidden(t, q, at, reason)
		}
	}
	if seen < 100 || hidden < 100 || cut < 10 {
		t.Error("seen:", seen, "hidden:", hidden, "cuts:", cut)
	}
}

// checkHidden checks Hidden for an address.
func checkHidden(t *testing.T, q asker, at api.Ref, reason api.Reason) {
	l, e := why.Hidden(q.user, at, q.b)
	n := 0
	for _, c := range sample.Cells() {
		reaches, _ := reach.Reaches(q.g, at, c)
		want := reaches && !sample.Reads(q.b, q.user, c)
		found := 0
		for _, r := range l {
			if rect.Has(r, c) {
				found++
			}
		}
		if found > 1 || (found == 1) != want {
			t.Fatal("Hidden", q.b, q.user, at, l)
		}
		n += found
	}
	area := 0
	for i, r := range l {
		a, _ := rect.Area(r)
		area += a
		if i > 0 && (r.R1 < l[i-1].R1 || r.R1 == l[i-1].R1 && (r.C1 <= l[i-1].C2+1 || r.R2 != l[i-1].R2)) {
			t.Fatal("the order of bands:", l)
		}
	}
	if area != n || e != api.OK {
		t.Fatal("Hidden", q.b, q.user, at, l, e)
	}
	if n > 0 && reason.Sees && len(reason.Cuts) == 0 || !reason.Sees && sample.Reads(q.b, q.user, at) && n == 0 {
		t.Fatal("hidden addresses and the reason:", q.b, q.user, at, l, reason)
	}
	plain := book.Copy(q.b)
	plain.Grants = nil
	if r, _ := why.Reason(q.user, at, plain); n > 0 && r.Sees || len(r.Cuts) > 0 {
		t.Fatal("without grants:", q.b, q.user, at, r)
	}
}
