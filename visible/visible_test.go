package visible_test

import (
	"math"
	"math/rand"
	"slices"
	"testing"

	"louvre/acl"
	"louvre/api"
	"louvre/book"
	"louvre/deps"
	"louvre/reach"
	"louvre/rect"
	"louvre/sample"
	"louvre/visible"
)

// The table of examples.
func TestExamples(t *testing.T) {
	before := sample.Granted()
	after := sample.With(before, "B2 25")
	for r, want := range map[string]string{"B2": "B2 A3 A4", "A1": "A1 A2", "C5": "", "A3:A4": "A3 A4", "A1:B1": "A1 B1 A2 A3 A4", "B3": "A3 A4"} {
		if l, e := visible.Closure(sample.Rect(r), after); sample.Text(l...) != want || e != api.OK {
			t.Error("Closure", r, sample.Text(l...), e)
		}
	}
	for user, want := range []string{"B2 A3 A4", "A3 A4", ""} {
		if l, e := visible.Cells(user, sample.Rect("B2"), before, after); sample.Text(l...) != want || e != api.OK {
			t.Error("Cells", user, sample.Text(l...), e)
		}
	}
	for r, want := range map[string][]int{"B2": {3, 2, 0}, "A1:B1": {5, 3, 1}, "C5": {0, 0, 0}} {
		if l, e := visible.Counts(sample.Rect(r), before, after); !slices.Equal(l, want) || e != api.OK {
			t.Error("Counts", r, l, e)
		}
	}
	for _, user := range []int{3, -1, math.MaxInt, math.MinInt} {
		if l, e := visible.Cells(user, sample.Rect("B2"), before, after); l != nil || e != api.ErrArg {
			t.Error("Cells", user, l, e)
		}
	}
	if l, e := visible.Counts(api.Rect{}, before, after); l != nil || e != api.ErrRange {
		t.Error("Counts", l, e)
	}
}

// The errors, in their order.
func TestFaults(t *testing.T) {
	good, bad, one := sample.Book(), sample.Book(), sample.Book()
	bad.Entries[0].Input = "="
	one.Users = 1
	for i := range one.Rules {
		one.Rules[i].Rights = api.Rights{Read: 1}
	}
	wrong := api.Rect{C1: 2, R1: 1, C2: 1, R2: 1}
	if l, e := visible.Closure(wrong, bad); l != nil || e != api.ErrForm {
		t.Error("Closure", l, e)
	}
	if l, e := visible.Closure(wrong, good); l != nil || e != api.ErrRange {
		t.Error("Closure", l, e)
	}
	for i, x := range []struct {
		user          int
		r             api.Rect
		before, after api.Book
		cells, counts api.Errno
	}{
		{9, wrong, bad, api.Book{}, api.ErrForm, api.ErrForm}, {9, wrong, api.Book{}, bad, api.ErrArg, api.ErrArg}, {9, wrong, good, bad, api.ErrForm, api.ErrForm}, {1, wrong, good, one, api.ErrArg, api.ErrArg}, {1, wrong, one, good, api.ErrArg, api.ErrArg}, {0, wrong, one, good, api.ErrRange, api.ErrArg}, {0, sample.Rect("A1"), good, one, api.OK, api.ErrArg}, {2, wrong, good, good, api.ErrRange, api.ErrRange},
	} {
		if l, e := visible.Cells(x.user, x.r, x.before, x.after); e != x.cells || e != api.OK && l != nil {
			t.Error("Cells", i, l, e)
		}
		if l, e := visible.Counts(x.r, x.before, x.after); e != x.counts || e != api.OK && l != nil {
			t.Error("Counts", i, l, e)
		}
	}
}

// counted returns the cells that count, found by adding one after another until none can be added.
func counted(user int, r api.Rect, before, after api.Book) []api.Ref {
	g, _ := deps.New(after.Entries...)
	set := map[api.Ref]bool{}
	uses := func(at api.Ref) bool {
		return slices.ContainsFunc(g.Uses(at), func(u api.Use) bool {
			_, meets := rect.Meet(u.Rect, r)
			return meets || slices.ContainsFunc(sample.Cells(), func(c api.Ref) bool { return set[c] && rect.Has(u.Rect, c) })
		})
	}
	for range after.Entries {
		for _, x := range after.Entries {
			if (rect.Has(r, x.At) || uses(x.At)) && sample.Sees(before, user, x.At) && sample.Sees(after, user, x.At) {
				set[x.At] = true
			}
		}
	}
	var l []api.Ref
	for _, at := range sample.Cells() {
		if set[at] {
			l = append(l, at)
		}
	}
	return l
}

// P35.1 to P35.4
func TestRandom(t *testing.T) {
	r := rand.New(rand.NewSource(1))
	for range 150 {
		before := sample.Random(r.Intn)
		x := sample.Op(r.Intn, before.Users)
		after, _, _, _ := book.Apply(before, x)
		area := sample.Rect([]string{"A1", "B2:C3", "D1:D5", "H9", "A1:D5"}[r.Intn(5)])
		if (x.Kind == api.OpSet || x.Kind == api.OpClear) && rect.Check(x.Rect) == api.OK {
			area = x.Rect
		}
		g, _ := deps.New(after.Entries...)
		var closure []api.Ref
		for _, y := range after.Entries {
			if above, _ := reach.Above(g, area); rect.Has(area, y.At) || slices.Contains(above, y.At) {
				closure = append(closure, y.At)
			}
		}
		if l, e := visible.Closure(area, after); !slices.Equal(l, closure) || e != api.OK {
			t.Fatal("Closure", after, area, l, e)
		}
		counts, e := visible.Counts(area, before, after)
		if len(counts) != after.Users || e != api.OK {
			t.Fatal("Counts", counts, e)
		}
		for user := range after.Users {
			want := counted(user, area, before, after)
			if l, e := visible.Cells(user, area, before, after); !slices.Equal(l, want) || counts[user] != len(want) || e != api.OK {
				t.Fatal("Cells", user, before, after, area, sample.Text(l...), sample.Text(want...))
			}
			all := true
			for _, at := range closure {
				all = all && sample.Sees(before, user, at) && sample.Sees(after, user, at)
			}
			if all && !slices.Equal(want, closure) {
				t.Fatal("a user who sees all cells:", user, before, after)
			}
			// Inputs that the user may not read do not matter.
			a, b := secret(before, user, r), secret(after, user, r)
			if l, e := visible.Cells(user, area, a, b); !slices.Equal(l, want) || e != api.OK {
				t.Fatal("inputs that are not read:", user, before, after, a, b, sample.Text(l...), sample.Text(want...))
			}
		}
	}
}

// secret returns a book with other inputs at all addresses that a user may not read.
func secret(b api.Book, user int, r *rand.Rand) api.Book {
	for _, at := range sample.Cells() {
		if rights, _ := acl.At(at, b.Rules...); rights.Read>>user&1 == 0 {
			name, _ := rect.Format(rect.One(at))
			b = sample.With(b, name+" "+[]string{"", "5", "=A1", "=DSUM(A1:B2)", "=SUM(A1:D5)", "x"}[r.Intn(6)])
		}
	}
	return b
}
