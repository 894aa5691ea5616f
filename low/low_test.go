package low_test

import (
	"math"
	"math/rand"
	"slices"
	"strings"
	"testing"

	"louvre/acl"
	"louvre/api"
	"louvre/book"
	"louvre/denote"
	"louvre/entry"
	"louvre/low"
	"louvre/op"
	"louvre/rect"
	"louvre/sample"
	"louvre/val"
)

func hide(t *testing.T, user int, b api.Book, s string) api.Book {
	t.Helper()
	c, e := low.Hide(user, b, sample.Entries(s)...)
	if e != api.OK {
		t.Fatal(s, e)
	}
	return c
}

func ops(t *testing.T, lines string) []api.Op {
	t.Helper()
	var l []api.Op
	for _, line := range strings.Split(lines, ";") {
		x, e := op.Parse(line)
		if e != api.OK {
			t.Fatal(line)
		}
		l = append(l, x)
	}
	return l
}

// The table of examples.
func TestExamples(t *testing.T) {
	b := sample.Granted()
	c, d := hide(t, 1, b, "B1 25;B2 5"), hide(t, 1, b, "B1 11")
	if ok, e := low.Alike(1, b, c); !ok || e != api.OK {
		t.Error("Alike", ok, e)
	}
	if ok, e := low.Alike(0, b, c); ok || e != api.OK {
		t.Error("Alike", ok, e)
	}
	if x, e := low.Hide(1, b, sample.Entries("A1 6")...); !book.Equal(x, api.Book{}) || e != api.ErrRights {
		t.Error("Hide", x, e)
	}
	shown := func(n int64) []api.Shown {
		return []api.Shown{{Call: api.Call{At: sample.Ref("A3"), Node: 1}, V: val.Make(n * api.Unit), To: 2}}
	}
	for i, x := range []struct {
		user int
		b    api.Book
		want []api.Shown
	}{{1, b, shown(30)}, {2, b, nil}, {1, d, shown(31)}, {0, b, nil}, {1, c, shown(30)}} {
		if l, e := low.Shown(x.user, x.b); !slices.Equal(l, x.want) || e != api.OK {
			t.Error("Shown", i, l, e)
		}
	}
	one, two := ops(t, "login 1;read 1 A1:B4"), ops(t, "login 2;read 2 A1:B4")
	for i, x := range []struct {
		user int
		c    api.Book
		l    []api.Op
		want api.Run
	}{{1, c, one, api.Run{Steps: 2, Same: true, Fair: true, Values: 3}}, {1, d, one, api.Run{Same: true}}, {2, d, two, api.Run{Steps: 2, Same: true, Fair: true}}} {
		if r, e := low.Compare(x.user, b, x.c, x.l, x.l); r != x.want || e != api.OK {
			t.Error("Compare", i, r, e)
		}
	}
	for line, want := range map[string]bool{"set 0 B3 \"7\"": true, "set 0 A1 \"7\"": false, "set 1 B3 \"7\"": false, "set 2 B3 \"7\"": true, "set 3 B3 \"7\"": false, "set 0 B3 \"=(\"": true, "clear 0 B3": false, "set 0 0,1,0,1 \"\"": false, "formula 0 B3": false} {
		if ok, e := low.Secret(1, b, ops(t, line)[0]); ok != want || e != api.OK {
			t.Error("Secret", line, ok, e)
		}
	}
}

// P39.1: what must be the same.
func TestAlike(t *testing.T) {
	with := func(change func(b *api.Book)) api.Book {
		b := sample.Granted()
		b.Step = 9
		b.Log = []api.Event{{Step: 1, User: 1, Kind: api.OpSet, Rect: sample.Rect("A1"), To: 3}, {Step: 2, Kind: api.OpSet, Rect: sample.Rect("A1"), To: 1}}
		b.Releases = []api.Release{{Step: 1, Call: api.Call{At: sample.Ref("A3"), Node: 1}, Fn: api.FnDSum, Rect: sample.Rect("B1:B3"), To: 2}, {Step: 2, Call: api.Call{At: sample.Ref("A3"), Node: 1}, Fn: api.FnDSum, Rect: sample.Rect("B1:B3"), To: 5}}
		change(&b)
		return b
	}
	a := with(func(b *api.Book) {})
	for i, x := range []struct {
		change func(b *api.Book)
		want   bool
	}{
		{func(b *api.Book) {}, true}, {func(b *api.Book) { b.Users = 4 }, false}, {func(b *api.Book) { b.Step = 10 }, false}, {func(b *api.Book) { b.Rules[1].Rights.Own = 3 }, false}, {func(b *api.Book) { b.Rules = append(b.Rules, sample.Rule("Z9", 0, 0, 0)) }, false}, {func(b *api.Book) { b.Grants[0].To = 6 }, false}, {func(b *api.Book) { b.Grants = nil }, false},
		{func(b *api.Book) { *b = sample.With(*b, "B1 99;B2 ;B3 =A4") }, true}, {func(b *api.Book) { *b = sample.With(*b, "A1 6") }, false}, {func(b *api.Book) { *b = sample.With(*b, "A1 5.0") }, false}, {func(b *api.Book) { *b = sample.With(*b, "A1 ") }, false}, {func(b *api.Book) { *b = sample.With(*b, "C9 1") }, false},
		{func(b *api.Book) { b.Log = b.Log[:1] }, true}, {func(b *api.Book) { b.Log = b.Log[1:] }, false}, {func(b *api.Book) { b.Log[0].Done = true }, false}, {func(b *api.Book) { b.Log[1].Done = true }, true}, {func(b *api.Book) { b.Log[1].To = 3 }, false}, {func(b *api.Book) { b.Releases = b.Releases[:1] }, true}, {func(b *api.Book) { b.Releases[0].Grant = 3 }, false}, {func(b *api.Book) { b.Releases[1].Grant = 3 }, true}, {func(b *api.Book) { b.Releases[0].Step = 0 }, false},
	} {
		b := with(x.change)
		for _, p := range [][2]api.Book{{a, b}, {b, a}} {
			if ok, e := low.Alike(1, p[0], p[1]); ok != x.want || e != api.OK {
				t.Error("Alike", i, ok, e)
			}
		}
	}
}

// P39.2
func TestHide(t *testing.T) {
	b := sample.Granted()
	long := strings.Repeat("x", 257)
	for i, x := range []struct {
		l    []api.Entry
		want string
		e    api.Errno
	}{
		{nil, "", api.OK}, {sample.Entries("B1 7"), "B1 7", api.OK}, {sample.Entries("B1 ;B3 =A4"), "B1 ;B3 =A4", api.OK}, {append(sample.Entries("B1 7"), sample.Entries("B1 ")...), "B1 ", api.OK}, {append(sample.Entries("B3 7"), sample.Entries("B3 8")...), "B3 8", api.OK},
		{[]api.Entry{{}}, "", api.ErrRange}, {[]api.Entry{{At: api.Ref{Col: 1025, Row: 1}, Input: "="}}, "", api.ErrRange}, {sample.Entries("B1 =("), "", api.ErrForm}, {sample.Entries("A1 =FOO(1)"), "", api.ErrName}, {sample.Entries("A1 "), "", api.ErrRights}, {sample.Entries("C1 5"), "", api.ErrRights}, {[]api.Entry{{At: sample.Ref("B1"), Input: long}}, "", api.ErrLong}, {append(sample.Entries("B1 =("), sample.Entries("A1 5")...), "", api.ErrForm}, {append(sample.Entries("A1 5"), sample.Entries("B1 =(")...), "", api.ErrRights},
	} {
		c, e := low.Hide(1, b, x.l...)
		want := b
		if x.want != "" {
			want = sample.With(b, x.want)
		}
		if e != x.e || e == api.OK && !book.Equal(c, want) || e != api.OK && !book.Equal(c, api.Book{}) {
			t.Error("Hide", i, c, e)
		}
	}
	if c, e := low.Hide(0, b, sample.Entries("B1 7")...); !book.Equal(c, api.Book{}) || e != api.ErrRights {
		t.Error("Hide for user 0:", e)
	}
}

// P39.4: how a comparison ends.
func TestCompare(t *testing.T) {
	b := sample.Granted()
	c := hide(t, 1, b, "B1 25;B2 5")
	for i, x := range []struct {
		user int
		l, m string
		want api.Run
	}{
		{1, "login 0;login 1;set 0 B3 \"1\"", "login 0;login 1;set 0 B3 \"1\"", api.Run{Steps: 3, Same: true, Fair: true, Values: 4}},
		{1, "login 0;set 0 B1 \"1\"", "login 0;set 0 B1 \"1\"", api.Run{Steps: 2, Same: true, Values: 2}},
		{1, "login 0;set 0 B3 \"1\"", "login 0;set 0 B3 \"2\"", api.Run{Steps: 2, Same: true, Values: 2}},
		{2, "login 0;set 0 B3 \"1\"", "login 0;set 0 B3 \"2\"", api.Run{Steps: 2, Same: true, Fair: true}},
		{2, "login 0;set 0 B3 \"1\"", "login 0;set 0 B3 \"=(\"", api.Run{Steps: 1, Same: true}},
		{2, "login 0;set 0 B3 \"=1+\"", "login 0;set 0 B3 \"=(\"", api.Run{Steps: 2, Same: true, Fair: true}},
		{2, "login 0;set 0 B3 \"\"", "login 0;set 0 B3 \"5\"", api.Run{Steps: 2, Same: true, Fair: true}},
		{2, "login 0;set 0 A1 \"1\"", "login 0;set 0 A1 \"2\"", api.Run{Steps: 1, Same: true}},
		{2, "login 0;set 0 B3 \"1\"", "login 0;set 0 B2 \"1\"", api.Run{Steps: 1, Same: true}},
		{2, "login 0", "login 1", api.Run{Same: true}},
		{2, "login 0;rule 0 B1 0-2 0 0", "login 0;rule 0 B1 0-2 0 0", api.Run{Steps: 2, Same: true}},
		{2, "login 0;clear 0 B1:B3;rule 0 B1 0-2 0 0", "login 0;clear 0 B1:B3;rule 0 B1 0-2 0 0", api.Run{Steps: 3, Same: true, Fair: true}},
		{2, "login 0;grant 0 B1:B3 1 2", "login 0;grant 0 B1:B3 1 2", api.Run{Steps: 2, Same: true, Fair: true, Values: 1}},
		{2, "login 0;grant 0 B1:B3 16 2;login 2;set 2 C1 \"=DMAX(B1:B3)\"", "login 0;grant 0 B1:B3 16 2;login 2;set 2 C1 \"=DMAX(B1:B3)\"", api.Run{Steps: 4, Same: true}},
	} {
		if r, e := low.Compare(x.user, b, c, ops(t, x.l), ops(t, x.m)); r != x.want || e != api.OK {
			t.Error("Compare", i, r, e, "want", x.want)
		}
	}
	if r, e := low.Compare(1, b, c, nil, nil); r != (api.Run{Same: true, Fair: true, Values: 1}) || e != api.OK {
		t.Error("Compare of no operations:", r, e)
	}
	same := append(sample.Entries("B1 7"), sample.Entries("B1 11")...)
	d, _ := low.Hide(2, b, same...)
	x := api.Op{Kind: api.OpSet, Rect: sample.Rect("B1"), Input: strings.Repeat("x", 300)}
	y := x
	y.Input = "\n"
	if r, e := low.Compare(2, b, d, []api.Op{x}, []api.Op{x}); r != (api.Run{Steps: 1, Same: true, Fair: true}) || e != api.OK {
		t.Error("an operation that is not well formed:", r, e)
	}
	if r, e := low.Compare(2, b, d, []api.Op{x}, []api.Op{y}); r != (api.Run{Same: true}) || e != api.OK {
		t.Error("different operations that are not well formed:", r, e)
	}
	y.Input = "=("
	if r, e := low.Compare(2, b, d, []api.Op{y}, []api.Op{x}); r != (api.Run{Steps: 1, Same: true, Fair: true}) || e != api.OK {
		t.Error("inputs that are both not accepted:", r, e)
	}
}

// The errors, in their order.
func TestFaults(t *testing.T) {
	good, bad, late := sample.Granted(), sample.Granted(), sample.Granted()
	bad.Entries[0].Input = "=("
	late.Step = api.MaxStep/2 + 1
	other := sample.With(good, "A1 6")
	smaller := api.Book{Users: 2, Rules: []api.Rule{sample.Rule("A1:AMJ1024", 3, 3, 3)}}
	one, many := make([]api.Op, 1), make([]api.Op, api.MaxOps+1)
	for i, x := range []struct {
		user int
		a, b api.Book
		l, m []api.Op
		want api.Errno
	}{
		{9, bad, api.Book{}, one, nil, api.ErrForm}, {9, api.Book{}, bad, one, nil, api.ErrArg}, {9, good, bad, one, nil, api.ErrForm}, {9, good, other, one, nil, api.ErrArg}, {-1, good, good, nil, nil, api.ErrArg}, {math.MaxInt, good, good, nil, nil, api.ErrArg}, {2, smaller, good, nil, nil, api.ErrArg}, {1, good, other, many, one, api.ErrArg}, {1, good, other, many, many, api.ErrLong}, {1, late, late, nil, nil, api.ErrLong}, {1, good, late, nil, nil, api.ErrState}, {1, good, other, one, one, api.ErrState}, {1, good, smaller, one, one, api.ErrState}, {2, good, smaller, nil, nil, api.ErrState},
	} {
		if r, e := low.Compare(x.user, x.a, x.b, x.l, x.m); r != (api.Run{}) || e != x.want {
			t.Error("Compare", i, r, e)
		}
	}
	for _, x := range []struct {
		user int
		b    api.Book
		want api.Errno
	}{{9, bad, api.ErrForm}, {0, api.Book{}, api.ErrArg}, {3, good, api.ErrArg}, {-1, good, api.ErrArg}, {math.MinInt, good, api.ErrArg}} {
		if ok, e := low.Alike(x.user, x.b, good); ok || e != x.want {
			t.Error("Alike", ok, e)
		}
		if c, e := low.Hide(x.user, x.b, api.Entry{}); !book.Equal(c, api.Book{}) || e != x.want {
			t.Error("Hide", c, e)
		}
		if l, e := low.Shown(x.user, x.b); l != nil || e != x.want {
			t.Error("Shown", l, e)
		}
		if ok, e := low.Secret(x.user, x.b, api.Op{}); ok || e != x.want {
			t.Error("Secret", ok, e)
		}
	}
	if ok, e := low.Alike(1, good, bad); ok || e != api.ErrForm {
		t.Error("Alike", ok, e)
	}
	if ok, e := low.Alike(2, good, smaller); ok || e != api.OK {
		t.Error("Alike", ok, e)
	}
	if ok, e := low.Secret(1, good, api.Op{Kind: api.OpSet, Rect: sample.Rect("B1"), Input: "\n"}); ok || e != api.OK {
		t.Error("Secret of an operation that is not well formed:", ok, e)
	}
	end := sample.Granted()
	end.Step = api.MaxStep
	if ok, e := low.Secret(1, end, api.Op{Kind: api.OpSet, Rect: sample.Rect("B1")}); !ok || e != api.OK {
		t.Error("Secret at the greatest step:", ok, e)
	}
}

// secrets returns other inputs for some addresses that a user may not read.
func secrets(b api.Book, user int, r *rand.Rand) []api.Entry {
	var l []api.Entry
	for _, at := range sample.Cells() {
		if !sample.Reads(b, user, at) && r.Intn(2) == 0 {
			l = append(l, api.Entry{At: at, Input: []string{"", "5", "x", "=A1", "=DSUM(A1:B2)", "=SUM(A1:D5)", "=DSUM(B1:B3)+1"}[r.Intn(7)]})
		}
	}
	return l
}

// W2, P39.3, P39.5 to P39.8: whatever is hidden, nothing that is delivered differs.
func TestNoninterference(t *testing.T) {
	r := rand.New(rand.NewSource(1))
	fair, steps, different := 0, 0, 0
	for range 150 {
		b := sample.Random(r.Intn)
		user := r.Intn(b.Users)
		if others := (uint64(1)<<b.Users - 1) &^ (1 << user); r.Intn(2) == 0 {
			b.Rules = append(b.Rules, sample.Rule([]string{"A1:C2", "B1:D3", "B2"}[r.Intn(3)], others, others, others))
		}
		c, e := low.Hide(user, b, secrets(b, user, r)...)
		same, f := low.Alike(user, b, c)
		back, g := low.Alike(user, c, b)
		if self, _ := low.Alike(user, b, b); e != api.OK || !same || f != api.OK || !back || g != api.OK || !self || book.Check(c) != api.OK {
			t.Fatal("Hide", b, user, c, e)
		}
		checkShown(t, b, user)
		var l, m []api.Op
		for n := range 12 {
			x := sample.Op(r.Intn, b.Users)
			if n < b.Users {
				x = api.Op{Kind: api.OpLogin, User: n}
			}
			if at := sample.Cells()[r.Intn(20)]; n >= b.Users && r.Intn(2) == 0 {
				x = api.Op{Kind: api.OpSet, User: r.Intn(b.Users), Rect: rect.One(at), Input: []string{"", "3", "=C1", "=1+"}[r.Intn(4)]}
			}
			y := x
			if secret(t, b, user, x) {
				y.Input = []string{"", "7", "=A1+B2", "=1+", "=SUM(A1:C4)"}[r.Intn(5)]
			}
			l, m = append(l, x), append(m, y)
		}
		run, e := low.Compare(user, b, c, l, m)
		if e != api.OK || !run.Same {
			t.Fatal("Compare", b, user, c, l, m, run, e)
		}
		if run.Fair {
			fair++
		}
		steps += run.Steps
		if !slices.Equal(l, m) {
			different++
		}
		checkFair(t, b, c, user, l, m)
	}
	if fair < 50 || steps < 900 || different < 20 {
		t.Error("fair:", fair, "steps:", steps, "different:", different)
	}
}

// secret checks Secret for an operation.
func secret(t *testing.T, b api.Book, user int, x api.Op) bool {
	t.Helper()
	ok, e := low.Secret(user, b, x)
	at := api.Ref{Col: x.Rect.C1, Row: x.Rect.R1}
	rights, _ := acl.At(at, b.Rules...)
	want := op.Check(x) == api.OK && x.Kind == api.OpSet && x.User != user && x.User < b.Users && rect.Check(x.Rect) == api.OK && (rights.Read|rights.Own)>>user&1 == 0
	if ok != want || e != api.OK {
		t.Fatal("Secret", b, user, x, ok, e)
	}
	return ok
}

// checkShown checks the released values of a user.
func checkShown(t *testing.T, b api.Book, user int) {
	v, _ := denote.Book(b)
	var want []api.Shown
	for _, x := range v.Shown {
		if x.To>>user&1 == 1 && sample.Reads(b, user, x.Call.At) {
			x.To = 1 << user
			want = append(want, x)
		}
	}
	if l, e := low.Shown(user, b); !slices.Equal(l, want) || e != api.OK {
		t.Fatal("Shown", b, user, l, want, e)
	}
}

// checkFair checks P39.8: without grants that name the user, and without operations on rights, comparisons are fair.
func checkFair(t *testing.T, b, c api.Book, user int, l, m []api.Op) {
	b, c = book.Copy(b), book.Copy(c)
	for i := range b.Grants {
		b.Grants[i].To &^= 1 << user
		c.Grants[i].To &^= 1 << user
	}
	var kept, also []api.Op
	for i, x := range l {
		_, _, one := entry.Of(x.Input)
		_, _, other := entry.Of(m[i].Input)
		if x.Kind != api.OpRule && x.Kind != api.OpGrant && (one == api.OK) == (other == api.OK) {
			kept, also = append(kept, x), append(also, m[i])
		}
	}
	if r, e := low.Compare(user, b, c, kept, also); e != api.OK || r != (api.Run{Steps: len(kept), Same: true, Fair: true}) {
		t.Fatal("a comparison without grants:", b, user, c, kept, also, r, e)
	}
}
