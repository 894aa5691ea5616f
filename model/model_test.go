package model_test

import (
	"math/rand"
	"reflect"
	"slices"
	"strings"
	"testing"

	"louvre/api"
	"louvre/audit"
	"louvre/book"
	"louvre/denote"
	"louvre/model"
	"louvre/op"
	"louvre/rect"
	"louvre/release"
	"louvre/sample"
	"louvre/val"
	"louvre/visible"
)

func begin(t *testing.T, b api.Book) *model.Model {
	t.Helper()
	m, e := model.New(b)
	if e != api.OK {
		t.Fatal(b, e)
	}
	return m
}

func do(t *testing.T, m *model.Model, line string) api.Step {
	t.Helper()
	x, e := op.Parse(line)
	if e != api.OK {
		t.Fatal(line)
	}
	return m.Do(x)
}

func grid(s api.Step) string {
	var words []string
	for _, v := range s.Reply.Grid {
		words = append(words, val.Show(v))
	}
	return strings.Join(words, ",")
}

// The table of examples of the chapter.
func TestExamples(t *testing.T) {
	m := begin(t, sample.Book())
	for i, want := range []uint8{api.Out, api.Done, api.Out} {
		if s := do(t, m, []string{"read 1 A1:B2", "login 1", "login 1"}[i]); s.Reply.Code != want || !slices.Equal(s.Counts, []int{0, 0, 0}) {
			t.Error(i, s)
		}
	}
	if s := do(t, m, "read 1 A1:B2"); grid(s) != "5,#DENIED,#DENIED,#DENIED" || s.Reply.Code != api.Done {
		t.Error("read", s)
	}
	for _, line := range []string{"login 0", "grant 0 B1:B3 1 1"} {
		if s := do(t, m, line); s.Reply.Code != api.Done {
			t.Error(line, s)
		}
	}
	if s := do(t, m, "read 1 A3:A4"); grid(s) != "30,31" {
		t.Error("read", s)
	}
	entry := api.Release{Step: 5, Call: api.Call{At: sample.Ref("A3"), Node: 1}, Fn: api.FnDSum, Rect: sample.Rect("B1:B3"), To: 7}
	if s := do(t, m, "audit 1"); s.Reply.Events != nil || !slices.Equal(s.Reply.Releases, []api.Release{entry}) {
		t.Error("audit", s)
	}
	if s := do(t, m, "set 0 B2 \"25\""); s.Reply.Count != 3 || !slices.Equal(s.Counts, []int{3, 2, 0}) {
		t.Error("set", s)
	}
	if m.In() != 3 || m.Book().Step != 9 {
		t.Error("In or Step", m.In(), m.Book().Step)
	}
}

// The table of examples of DOC.md.
func TestDocument(t *testing.T) {
	m := begin(t, sample.Book())
	for _, line := range []string{"login 0", "login 1", "login 2"} {
		do(t, m, line)
	}
	if s := do(t, m, "formula 2 A2"); s.Reply.Text != "=A1+B1" {
		t.Error("10:", s)
	}
	if s := do(t, m, "formula 2 B1"); s.Reply.Code != api.Refused || s.Reply.Text != "" {
		t.Error("formula", s)
	}
	do(t, m, "grant 0 B1:B3 1 1")
	if s := do(t, m, "read 2 A3:A4"); grid(s) != "#DENIED,#DENIED" {
		t.Error("4:", s)
	}
	if s := do(t, m, "set 1 B1 \"7\""); s.Reply.Code != api.Refused || s.Reply.Count != 0 {
		t.Error("5:", s)
	}
	for user, want := range []int{2, 1, 0} {
		if s := do(t, m, "audit "+string(rune('0'+user))); len(s.Reply.Events) != want {
			t.Error("5: the entries of user", user, s.Reply.Events)
		}
	}
	if s := do(t, m, "set 0 B2 \"25\""); !slices.Equal(s.Counts, []int{3, 2, 0}) {
		t.Error("6:", s)
	}
	c := m.Copy()
	do(t, c, "set 0 B3 \"=A4\"")
	if s := do(t, c, "read 1 A3:A4"); grid(s) != "#CYCLE!,#CYCLE!" {
		t.Error("7:", s)
	}
	do(t, m, "set 1 A5 \"=DSUM(B1:B2)\"")
	if s := do(t, m, "read 1 A5"); grid(s) != "#DENIED" {
		t.Error("8:", s)
	}
	do(t, m, "rule 0 A1:A5 0 0-2 0")
	if s := do(t, m, "read 1 A3"); grid(s) != "#DENIED" {
		t.Error("9:", s)
	}
}

// P37.1, P37.3, R5
func TestObjects(t *testing.T) {
	bad, late := sample.Book(), sample.Granted()
	bad.Rules[1].Rect.C2 = 9999
	late.Step = api.MaxStep/2 + 1
	for _, b := range []api.Book{{}, bad} {
		if m, e := model.New(b); m != nil || e != book.Check(b) {
			t.Error("New", m, e)
		}
	}
	if m, e := model.New(late); m != nil || e != api.ErrLong {
		t.Error("New", m, e)
	}
	late.Step--
	b := begin(t, late).Book()
	if want, _ := release.Open(late); !book.Equal(b, want) || len(b.Releases) != 1 {
		t.Error("Book", b)
	}
	x := api.Op{Kind: 77, User: -3, Input: "x"}
	for _, m := range []*model.Model{nil, {}} {
		if s := m.Do(x); !reflect.DeepEqual(s, api.Step{Op: x}) || m.In() != 0 || m.Copy() != nil || !book.Equal(m.Book(), api.Book{}) {
			t.Error("methods of nil", s)
		}
	}
	m := begin(t, sample.Book())
	c := m.Copy()
	do(t, c, "login 1")
	do(t, c, "set 1 A1 \"9\"")
	if m.In() != 0 || !book.Equal(m.Book(), sample.Book()) || c.In() != 2 || c.Book().Step != 2 {
		t.Error("Copy is not independent")
	}
	d := c.Book()
	d.Entries[0].Input, d.Rules[0].Rights.Read = "changed", 0
	if c.Book().Entries[0].Input != "9" || c.Book().Rules[0].Rights.Read != 7 {
		t.Error("Book shares memory")
	}
}

// P37.2: the codes that are found first.
func TestCodes(t *testing.T) {
	m := begin(t, sample.Book())
	do(t, m, "login 1")
	for _, x := range []struct {
		x    api.Op
		want uint8
	}{{api.Op{}, api.Form}, {api.Op{Kind: api.OpLogin, User: 3, Index: 1}, api.Form}, {api.Op{Kind: api.OpLogin, User: 3}, api.Unknown}, {api.Op{Kind: api.OpLogout, User: -1}, api.Unknown}, {api.Op{Kind: api.OpLogin, User: 1}, api.Out}, {api.Op{Kind: api.OpLogout, User: 0}, api.Out}, {api.Op{Kind: api.OpRead, User: 0}, api.Out}, {api.Op{Kind: api.OpRead, User: 1}, api.Full}, {api.Op{Kind: api.OpAudit, User: 2}, api.Out}, {api.Op{Kind: api.OpSet, User: 0, Rect: sample.Rect("A1"), Input: "=("}, api.Out}, {api.Op{Kind: api.OpSet, User: 1, Rect: sample.Rect("A1"), Input: "=("}, api.Syntax}} {
		before := m.Book()
		s := m.Do(x.x)
		before.Step++
		want := api.Step{Op: x.x, Reply: api.Reply{Code: x.want}, Counts: []int{0, 0, 0}}
		if x.want == api.Syntax {
			want.Reply.At = 2
		}
		if !reflect.DeepEqual(s, want) || !book.Equal(m.Book(), before) {
			t.Error("Do", s, "want", want)
		}
	}
}

// P37.2 to P37.7: sequences of operations on random books.
func TestRandom(t *testing.T) {
	r := rand.New(rand.NewSource(1))
	seen := map[uint8]int{}
	for range 40 {
		b := sample.Random(r.Intn)
		m := begin(t, b)
		in := uint64(0)
		for n := range 30 {
			x := sample.Op(r.Intn, b.Users)
			if n < b.Users {
				x = api.Op{Kind: api.OpLogin, User: n}
			}
			before := m.Book()
			s := m.Do(x)
			after := m.Book()
			seen[s.Reply.Code]++
			if ok, e := release.Covered(after); !ok || e != api.OK || after.Step != before.Step+1 || len(s.Counts) != b.Users || s.Op != x {
				t.Fatal("Do", b, x, s, e)
			}
			if s.Reply.Code == api.Done && x.Kind == api.OpLogin {
				in |= 1 << x.User
			}
			if s.Reply.Code == api.Done && x.Kind == api.OpLogout {
				in &^= 1 << x.User
			}
			if m.In() != in {
				t.Fatal("In", m.In(), in, x)
			}
			checkStep(t, before, after, s)
		}
	}
	for _, code := range []uint8{api.Done, api.Unknown, api.Out, api.Refused, api.Missing} {
		if seen[code] == 0 {
			t.Error("no reply with the code", code)
		}
	}
}

// checkStep checks a result by the books before and after the operation.
func checkStep(t *testing.T, before, after api.Book, s api.Step) {
	x, reply := s.Op, s.Reply
	none := api.Reply{Code: reply.Code}
	if reply.Code == api.Syntax {
		none.At = reply.At
	}
	counted := reply.Code == api.Done && (x.Kind == api.OpSet || x.Kind == api.OpClear)
	if reply.Code != api.Done && !reflect.DeepEqual(reply, none) || !counted && slices.Max(s.Counts) != 0 || counted && reply.Count != s.Counts[x.User] {
		t.Fatal("the reply", s)
	}
	same := before
	same.Step++
	if (!op.Mutates(x) || reply.Code != api.Done && reply.Code != api.Refused) && !book.Equal(same, after) {
		t.Fatal("what changed:", x, before, after)
	}
	if reply.Code == api.Form || reply.Code == api.Unknown || reply.Code == api.Out {
		return
	}
	want, code, at, _ := book.Apply(before, x)
	fresh, _ := release.Fresh(before, want)
	want.Releases = append(want.Releases, fresh...)
	if !book.Equal(after, want) || reply.Code != code || reply.At != at {
		t.Fatal("the book after", x, after, want)
	}
	if counts, _ := visible.Counts(x.Rect, before, after); counted && !slices.Equal(s.Counts, counts) {
		t.Fatal("the counts", before, s, counts)
	}
	if reply.Code != api.Done {
		return
	}
	switch x.Kind {
	case api.OpRead:
		l, _ := rect.Refs(x.Rect)
		for i, at := range l {
			v, _ := denote.Value(before, at)
			if !sample.Sees(before, x.User, at) {
				v = val.Fail(api.Denied)
			}
			if reply.Grid[i] != v || len(l) != len(reply.Grid) {
				t.Fatal("the grid", before, s)
			}
		}
	case api.OpFormula:
		if input, _ := book.Input(before, api.Ref{Col: x.Rect.C1, Row: x.Rect.R1}); reply.Text != input {
			t.Fatal("the formula", before, s)
		}
	case api.OpAudit:
		if !slices.Equal(reply.Events, audit.Events(x.User, before.Log...)) || !slices.Equal(reply.Releases, audit.Releases(x.User, before.Releases...)) {
			t.Fatal("the logs", before, s)
		}
	}
}
