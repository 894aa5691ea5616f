package session_test

import (
	"math/rand"
	"reflect"
	"slices"
	"testing"

	"louvre/api"
	"louvre/book"
	"louvre/denote"
	"louvre/deps"
	"louvre/model"
	"louvre/op"
	"louvre/reach"
	"louvre/rect"
	"louvre/release"
	"louvre/sample"
	"louvre/session"
)

func begin(t *testing.T, b api.Book) *session.Session {
	t.Helper()
	s, e := session.New(b)
	if e != api.OK {
		t.Fatal(b, e)
	}
	return s
}

func do(t *testing.T, s *session.Session, line string) api.Step {
	t.Helper()
	x, e := op.Parse(line)
	if e != api.OK {
		t.Fatal(line)
	}
	return s.Do(x)
}

// The table of examples.
func TestExamples(t *testing.T) {
	s := begin(t, sample.Book())
	if l := s.Evaluated(); l != nil {
		t.Error("Evaluated", l)
	}
	for _, x := range [][2]string{{"login 0", ""}, {"set 0 B2 \"25\"", "A3 A4"}, {"set 0 A1 \"=B1\"", "A1 A2"}, {"set 0 B3 \"=A4\"", ""}, {"clear 0 A1:A2", ""}, {"set 0 B3 \"1\"", "A3 A4"}, {"read 0 A1:A4", ""}, {"set 0 B3 \"2\"", "A3 A4"}, {"set 0 B3 \"=(\"", ""}, {"set 0 B3 \"2\"", "A3 A4"}, {"set 1 B3 \"2\"", ""}, {"clear 0 A1:B4", ""}} {
		step := do(t, s, x[0])
		if l := s.Evaluated(); sample.Text(l...) != x[1] {
			t.Error("Evaluated after", x, sample.Text(l...), step.Reply)
		}
	}
}

// same reports whether two steps are equal, empty slices being the same as nil.
func same(a, b api.Step) bool {
	return a.Op == b.Op && slices.Equal(a.Counts, b.Counts) && a.Reply.Code == b.Reply.Code && a.Reply.At == b.Reply.At && a.Reply.Text == b.Reply.Text && a.Reply.Count == b.Reply.Count && slices.Equal(a.Reply.Grid, b.Reply.Grid) && slices.Equal(a.Reply.Events, b.Reply.Events) && slices.Equal(a.Reply.Releases, b.Reply.Releases)
}

// W1, W4, W5, P38.2 to P38.7: sequences of operations on random books.
func TestRandom(t *testing.T) {
	r := rand.New(rand.NewSource(1))
	for range 15 {
		b := sample.Random(r.Intn)
		s := begin(t, b)
		m, e := model.New(b)
		if e != api.OK || !book.Equal(s.Book(), m.Book()) {
			t.Fatal("New", b)
		}
		var all []api.Op
		var steps []api.Step
		for n := range 30 {
			x := sample.Op(r.Intn, b.Users)
			if n < b.Users {
				x = api.Op{Kind: api.OpLogin, User: n}
			}
			before := s.Book()
			step := s.Do(x)
			all, steps = append(all, x), append(steps, step)
			if want := m.Do(x); !same(step, want) || !book.Equal(s.Book(), m.Book()) {
				t.Fatal("session and abstract session differ:", b, all, step, want)
			}
			var want []api.Ref
			if step.Reply.Code == api.Done && (x.Kind == api.OpSet || x.Kind == api.OpClear) {
				want = sample.Due(s.Book(), x.Rect)
			}
			if got := s.Evaluated(); !slices.Equal(got, want) {
				t.Fatal("Evaluated", b, all, sample.Text(got...), sample.Text(want...))
			}
			v, w := s.Valuation(), api.Valuation{}
			if w, _ = denote.Book(s.Book()); !slices.Equal(v.Cells, w.Cells) || !slices.Equal(v.Marks, w.Marks) || !slices.Equal(v.Circular, w.Circular) || !slices.Equal(v.Shown, w.Shown) {
				t.Fatal("Valuation", b, all, v, w)
			}
			checkTarget(t, before, s.Book(), step)
		}
		checkRun(t, b, all, steps, r.Intn(len(all)))
	}
}

// checkTarget checks W4: what is Done changes values and labels only of addresses that are in its target or reach it.
func checkTarget(t *testing.T, before, after api.Book, s api.Step) {
	target, ok := op.Target(s.Op)
	if s.Op.Kind == api.OpRevoke && s.Reply.Code == api.Done {
		target, ok = before.Grants[s.Op.Index].Rect, true
	}
	old, _ := deps.New(before.Entries...)
	g, _ := deps.New(after.Entries...)
	for _, at := range sample.Cells() {
		a, _ := denote.Value(before, at)
		b, _ := denote.Value(after, at)
		c, _ := denote.Label(before, at)
		d, _ := denote.Label(after, at)
		if a == b && c == d {
			continue
		}
		then, _ := reach.Above(old, target)
		now, _ := reach.Above(g, target)
		if !ok || !rect.Has(target, at) && !slices.Contains(then, at) && !slices.Contains(now, at) {
			t.Fatal("a change at", at, before, s)
		}
	}
}

// checkRun checks that two lists one after the other are the same as both together.
func checkRun(t *testing.T, b api.Book, all []api.Op, steps []api.Step, k int) {
	one, two := begin(t, b), begin(t, b)
	whole, e := one.Run(all...)
	first, f := two.Run(all[:k]...)
	rest, g := two.Run(all[k:]...)
	if e != api.OK || f != api.OK || g != api.OK || !slices.EqualFunc(whole, steps, same) || !slices.EqualFunc(append(first, rest...), steps, same) || !book.Equal(one.Book(), two.Book()) {
		t.Fatal("Run", b, all)
	}
}

// P38.1, R5
func TestObjects(t *testing.T) {
	bad, late := sample.Book(), sample.Granted()
	bad.Entries[2].Input = "=A1+"
	late.Step = api.MaxStep/2 + 1
	for _, b := range []api.Book{{}, bad} {
		if s, e := session.New(b); s != nil || e != book.Check(b) {
			t.Error("New", s, e)
		}
	}
	if s, e := session.New(late); s != nil || e != api.ErrLong {
		t.Error("New", s, e)
	}
	late.Step--
	b := begin(t, late).Book()
	if want, _ := release.Open(late); !book.Equal(b, want) || len(b.Releases) != 1 {
		t.Error("Book", b)
	}
	x := api.Op{Kind: 77, User: -3}
	for _, s := range []*session.Session{nil, {}} {
		if step := s.Do(x); !reflect.DeepEqual(step, api.Step{Op: x}) || !book.Equal(s.Book(), api.Book{}) || s.Evaluated() != nil || s.Valuation().Cells != nil {
			t.Error("methods of nil", step)
		}
		if l, e := s.Run(make([]api.Op, 5000)...); l != nil || e != api.ErrNil {
			t.Error("Run", l, e)
		}
	}
	s := begin(t, sample.Book())
	if l, e := s.Run(make([]api.Op, api.MaxOps+1)...); l != nil || e != api.ErrLong || s.Book().Step != 0 {
		t.Error("Run of too many:", len(l), e)
	}
	if l, e := s.Run(make([]api.Op, api.MaxOps)...); len(l) != api.MaxOps || e != api.OK || s.Book().Step != api.MaxOps || l[7].Reply.Code != api.Form {
		t.Error("Run of many:", len(l), e)
	}
	if l, e := s.Run(); l != nil || e != api.OK {
		t.Error("Run of none:", l, e)
	}
	d := s.Book()
	d.Entries[0].Input, d.Rules[0].Rights.Read = "changed", 0
	if c := s.Book(); c.Entries[0].Input != "5" || c.Rules[0].Rights.Read != 7 {
		t.Error("Book shares memory")
	}
	do(t, s, "login 0")
	do(t, s, "set 0 A1 \"6\"")
	s.Evaluated()[0] = api.Ref{}
	if sample.Text(s.Evaluated()...) != "A2" {
		t.Error("Evaluated shares memory")
	}
}
