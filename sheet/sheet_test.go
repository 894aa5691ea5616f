package sheet_test

import (
	"math"
	"math/rand"
	"slices"
	"testing"

	"louvre/addr"
	"louvre/api"
	"louvre/rect"
	"louvre/sheet"
	"louvre/val"
)

var (
	a1    = api.Ref{Col: 1, Row: 1}
	b1    = api.Ref{Col: 2, Row: 1}
	a2    = api.Ref{Col: 1, Row: 2}
	blank = api.Value{}
	x     = api.Value{Kind: api.Text, Text: "x"}
	two   = api.Value{Kind: api.Number, Num: 2_0000}
)

var whole = api.Rect{C1: 1, R1: 1, C2: api.MaxCol, R2: api.MaxRow}

func cell(at api.Ref, v api.Value) api.Cell { return api.Cell{At: at, V: v} }

// P6.1, and the example.
func TestNew(t *testing.T) {
	s, e := sheet.New(cell(b1, two), cell(a1, blank), cell(a2, x))
	if e != api.OK || !slices.Equal(s.Cells(), []api.Cell{cell(b1, two), cell(a2, x)}) || s.Len() != 2 {
		t.Fatal("New:", s.Cells(), s.Len(), e)
	}
	if e := s.Set(b1, blank); e != api.OK {
		t.Error("Set", e)
	}
	if v, e := s.Get(b1); v != blank || e != api.OK {
		t.Error("Get", v, e)
	}
	if l, e := s.In(api.Rect{C1: 1, R1: 1, C2: 2, R2: 2}); !slices.Equal(l, []api.Cell{cell(a2, x)}) || e != api.OK {
		t.Error("In", l, e)
	}
	if v, e := s.Get(api.Ref{Col: 1024, Row: 1024}); v != blank || e != api.OK {
		t.Error("Get of AMJ1024:", v, e)
	}
	denied := api.Value{Kind: api.Error, Num: api.Denied}
	for _, c := range []struct {
		l    []api.Cell
		want api.Errno
	}{
		{nil, api.OK},
		{[]api.Cell{cell(a1, two), cell(a1, blank)}, api.ErrHave},
		{[]api.Cell{cell(a1, blank), cell(b1, x), cell(a1, two)}, api.ErrHave},
		{[]api.Cell{cell(a1, blank), cell(a1, blank)}, api.ErrHave},
		{[]api.Cell{cell(api.Ref{Row: 1}, two)}, api.ErrRange},
		{[]api.Cell{cell(api.Ref{Row: 1}, denied)}, api.ErrRange},
		{[]api.Cell{cell(a1, denied)}, api.ErrArg},
		{[]api.Cell{cell(a1, two), cell(a1, denied)}, api.ErrArg},
		{[]api.Cell{cell(a1, denied), cell(api.Ref{}, two)}, api.ErrArg},
		{[]api.Cell{cell(a1, two), cell(a1, two), cell(b1, denied)}, api.ErrHave},
	} {
		if s, e := sheet.New(c.l...); e != c.want || (s == nil) != (e != api.OK) {
			t.Error("New", c.l, s, e)
		}
	}
}

// P6.2, P6.3: what is not accepted changes nothing.
func TestFaults(t *testing.T) {
	s, _ := sheet.New(cell(a1, two))
	for _, at := range []api.Ref{{}, {Col: 1025, Row: 1}, {Col: 1, Row: 1025}, {Col: math.MinInt, Row: 3}} {
		if e := s.Set(at, api.Value{Kind: 9}); e != api.ErrRange {
			t.Error("Set", at, e)
		}
		if v, e := s.Get(at); v != blank || e != api.ErrRange {
			t.Error("Get", at, v, e)
		}
		if l, e := s.In(rect.One(at)); l != nil || e != api.ErrRange {
			t.Error("In", at, l, e)
		}
	}
	if l, e := s.In(api.Rect{C1: 2, R1: 1, C2: 1, R2: 1}); l != nil || e != api.ErrRange {
		t.Error("In of an empty range:", l, e)
	}
	for _, v := range []api.Value{{Kind: 9}, {Kind: api.Error, Num: api.Denied}, {Num: 1}, {Kind: api.Number, Num: math.MinInt64}} {
		if e := s.Set(a1, v); e != api.ErrArg {
			t.Error("Set", v, e)
		}
	}
	if !slices.Equal(s.Cells(), []api.Cell{cell(a1, two)}) {
		t.Error("errors changed the sheet:", s.Cells())
	}
}

// R5
func TestNil(t *testing.T) {
	var s *sheet.Sheet
	if e := s.Set(api.Ref{}, two); e != api.ErrNil {
		t.Error("Set", e)
	}
	if v, e := s.Get(api.Ref{}); v != blank || e != api.ErrNil {
		t.Error("Get", v, e)
	}
	if l, e := s.In(api.Rect{}); l != nil || e != api.ErrNil {
		t.Error("In", l, e)
	}
	if s.Cells() != nil || s.Len() != 0 || s.Copy() != nil {
		t.Error("Cells, Len, Copy of nil")
	}
	empty, _ := sheet.New()
	if !s.Equal(nil) || s.Equal(empty) || empty.Equal(nil) {
		t.Error("Equal of nil")
	}
}

// P6.3 to P6.7, against a list of all addresses of A1:H8 and two far away.
func TestRandom(t *testing.T) {
	r := rand.New(rand.NewSource(1))
	var all []api.Ref
	for i := range 64 {
		all = append(all, api.Ref{Col: 1 + i%8, Row: 1 + i/8})
	}
	all = append(all, api.Ref{Col: 1024, Row: 8}, api.Ref{Col: 3, Row: 1024})
	slices.SortFunc(all, func(a, b api.Ref) int {
		i, _ := addr.Index(a)
		k, _ := addr.Index(b)
		return i - k
	})
	values := []api.Value{blank, blank, two, x, val.Truth(true), val.Fail(api.Cycle), val.Make(-7)}
	for range 300 {
		s, _ := sheet.New()
		want := map[api.Ref]api.Value{}
		for range r.Intn(200) {
			at, v := all[r.Intn(len(all))], values[r.Intn(len(values))]
			want[at] = v
			if e := s.Set(at, v); e != api.OK {
				t.Fatal("Set", at, v, e)
			}
		}
		in := func(r api.Rect) []api.Cell {
			var l []api.Cell
			for _, at := range all {
				if v := want[at]; rect.Has(r, at) && v != blank {
					l = append(l, cell(at, v))
				}
			}
			return l
		}
		if !slices.Equal(s.Cells(), in(whole)) || s.Len() != len(in(whole)) {
			t.Fatal("Cells", s.Cells())
		}
		for _, at := range all {
			if v, e := s.Get(at); v != want[at] || e != api.OK {
				t.Fatal("Get", at, v, e)
			}
		}
		for range 20 {
			c, d, e, f := 1+r.Intn(9), 1+r.Intn(9), 1+r.Intn(9), 1+r.Intn(9)
			part := api.Rect{C1: min(c, d), R1: min(e, f), C2: max(c, d), R2: max(e, f)}
			if l, e := s.In(part); !slices.Equal(l, in(part)) || e != api.OK {
				t.Fatal("In", part, l, e)
			}
		}
		if l, e := s.In(whole); !slices.Equal(l, s.Cells()) || e != api.OK {
			t.Fatal("In of the whole sheet:", l, e)
		}
		again, e := sheet.New(s.Cells()...)
		if e != api.OK || !again.Equal(s) || !s.Equal(again) {
			t.Fatal("New of Cells is not equal")
		}
		other := s.Copy()
		if !other.Equal(s) {
			t.Fatal("Copy is not equal")
		}
		other.Set(all[0], val.Make(123))
		if other.Equal(s) || s.Equal(other) || !again.Equal(s) {
			t.Fatal("Copy is not independent")
		}
		l := s.Cells()
		for i := range l {
			l[i] = cell(a1, val.Make(99))
		}
		if !again.Equal(s) {
			t.Fatal("Cells shares memory with the sheet")
		}
	}
}
