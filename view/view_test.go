package view_test

import (
	"math"
	"math/rand"
	"slices"
	"strings"
	"testing"

	"louvre/api"
	"louvre/book"
	"louvre/denote"
	"louvre/rect"
	"louvre/sample"
	"louvre/val"
	"louvre/view"
)

func shown(l []api.Value) string {
	var words []string
	for _, v := range l {
		words = append(words, val.Show(v))
	}
	return strings.Join(words, ",")
}

// The table of examples.
func TestExamples(t *testing.T) {
	b := sample.Book()
	for user, want := range map[int]string{1: "5,#DENIED,#DENIED,#DENIED", 0: "5,10,15,20", 2: "5,#DENIED,#DENIED,#DENIED"} {
		if l, e := view.Grid(user, sample.Rect("A1:B2"), b); shown(l) != want || e != api.OK {
			t.Error("Grid", user, shown(l), e)
		}
	}
	for _, x := range []struct {
		user int
		at   string
		want api.Value
	}{{1, "C1", api.Value{}}, {1, "B3", val.Fail(api.Denied)}, {0, "B3", api.Value{}}, {0, "A4", val.Make(31_0000)}, {1, "A4", val.Fail(api.Denied)}, {1, "AMJ1024", api.Value{}}} {
		if v, e := view.Cell(x.user, sample.Ref(x.at), b); v != x.want || e != api.OK {
			t.Error("Cell", x, v, e)
		}
	}
	if l, e := view.Table(1, sample.Rect("A1:B2"), b); !slices.Equal(l, []string{"5 | #DENIED", "#DENIED | #DENIED"}) || e != api.OK {
		t.Error("Table", l, e)
	}
	for _, x := range []struct {
		user     int
		at, want string
		e        api.Errno
	}{{1, "A2", "=A1+B1", api.OK}, {1, "B1", "", api.ErrRights}, {0, "C1", "", api.OK}, {0, "B1", "10", api.OK}, {2, "B9", "", api.OK}, {2, "B3", "", api.ErrRights}} {
		if s, e := view.Formula(x.user, sample.Ref(x.at), b); s != x.want || e != x.e {
			t.Error("Formula", x, s, e)
		}
	}
	if l, e := view.Grid(0, sample.Rect("A1:A1024"), b); len(l) != 1024 || e != api.OK {
		t.Error("Grid", len(l), e)
	}
	if l, e := view.Table(0, sample.Rect("A1:A1024"), b); len(l) != 1024 || l[3] != "31" || l[4] != "" || e != api.OK {
		t.Error("Table", len(l), e)
	}
	texts := sample.With(b, "C1 a | b;C2 TRUE;C3 ';D1 1.50;D2 #N/A")
	if l, e := view.Table(2, sample.Rect("C1:D3"), texts); !slices.Equal(l, []string{"a | b | 1.5", "TRUE | #N/A", " | "}) || e != api.OK {
		t.Error("Table", l, e)
	}
}

// The errors, in their order.
func TestFaults(t *testing.T) {
	good, bad := sample.Book(), sample.Book()
	bad.Users = 2
	wrong := api.Rect{C1: 1, C2: 1, R2: 1}
	for i, x := range []struct {
		user int
		r    api.Rect
		b    api.Book
		e    api.Errno
		grid api.Errno
	}{
		{0, wrong, bad, api.ErrArg, api.ErrArg}, {0, sample.Rect("A1"), api.Book{}, api.ErrArg, api.ErrArg}, {3, wrong, good, api.ErrArg, api.ErrArg}, {-1, wrong, good, api.ErrArg, api.ErrArg}, {math.MaxInt, sample.Rect("A1:AMJ1024"), good, api.ErrArg, api.ErrArg}, {0, wrong, good, api.ErrRange, api.ErrRange}, {1, api.Rect{C1: 1025, R1: 1, C2: 1025, R2: 1}, good, api.ErrRange, api.ErrRange}, {0, sample.Rect("A1:B513"), good, api.OK, api.ErrLong}, {0, sample.Whole(), good, api.OK, api.ErrLong},
	} {
		at := api.Ref{Col: x.r.C1, Row: x.r.R1}
		if v, e := view.Cell(x.user, at, x.b); e != x.e || e != api.OK && v != (api.Value{}) {
			t.Error("Cell", i, v, e)
		}
		if s, e := view.Formula(x.user, at, x.b); e != x.e || e != api.OK && s != "" {
			t.Error("Formula", i, s, e)
		}
		if l, e := view.Grid(x.user, x.r, x.b); e != x.grid || l != nil {
			t.Error("Grid", i, l, e)
		}
		if l, e := view.Table(x.user, x.r, x.b); e != x.grid || l != nil {
			t.Error("Table", i, l, e)
		}
	}
	if l, e := view.Grid(0, api.Rect{C1: 1, R1: 0, C2: 1, R2: 2}, good); l != nil || e != api.ErrRange {
		t.Error("Grid of A0:A2", l, e)
	}
}

// P36.1 to P36.6
func TestRandom(t *testing.T) {
	r := rand.New(rand.NewSource(1))
	for range 120 {
		b := sample.Random(r.Intn)
		user := r.Intn(b.Users)
		all := true
		var want []string
		for _, at := range sample.Cells()[:20] {
			all = all && sample.Reads(b, user, at)
			v, e := view.Cell(user, at, b)
			value, _ := denote.Value(b, at)
			if !sample.Sees(b, user, at) {
				value = val.Fail(api.Denied)
			}
			if v != value || e != api.OK {
				t.Fatal("Cell", b, user, at, v, value, e)
			}
			want = append(want, val.Show(v))
			input, _ := book.Input(b, at)
			s, e := view.Formula(user, at, b)
			if reads := sample.Reads(b, user, at); reads && (s != input || e != api.OK) || !reads && (s != "" || e != api.ErrRights || v != val.Fail(api.Denied)) {
				t.Fatal("Formula", b, user, at, s, e)
			}
		}
		grid, e := view.Grid(user, sample.Area(), b)
		if shown(grid) != strings.Join(want, ",") || e != api.OK {
			t.Fatal("Grid", b, user, shown(grid), e)
		}
		part, e := view.Grid(user, sample.Rect("B2:C4"), b)
		if shown(part) != strings.Join(slices.Concat(want[5:7], want[9:11], want[13:15]), ",") || e != api.OK {
			t.Fatal("Grid of a part", b, user, shown(part), e)
		}
		table, e := view.Table(user, sample.Area(), b)
		for i, line := range table {
			if line != strings.Join(want[4*i:4*i+4], " | ") {
				t.Fatal("Table", b, user, table)
			}
		}
		if len(table) != 5 || e != api.OK {
			t.Fatal("Table", table, e)
		}
		v, _ := denote.Book(b)
		for _, c := range v.Cells {
			if one, _ := view.Grid(user, rect.One(c.At), b); all && one[0] != c.V {
				t.Fatal("a user who reads everything:", b, user, c, one)
			}
		}
	}
}
