package addr_test

import (
	"math"
	"math/rand"
	"strings"
	"testing"

	"louvre/addr"
	"louvre/api"
)

// outside are addresses that are not in the sheet.
var outside = []api.Ref{{}, {Col: 0, Row: 1}, {Col: 1, Row: 0}, {Col: -1, Row: 5}, {Col: 5, Row: -1}, {Col: api.MaxCol + 1, Row: 1}, {Col: 1, Row: api.MaxRow + 1}, {Col: math.MaxInt, Row: 1}, {Col: 1, Row: math.MinInt}}

// P2.1
func TestValid(t *testing.T) {
	for _, r := range []api.Ref{{Col: 1, Row: 1}, {Col: api.MaxCol, Row: 1}, {Col: 1, Row: api.MaxRow}, {Col: api.MaxCol, Row: api.MaxRow}, {Col: 7, Row: 9}} {
		if !addr.Valid(r) {
			t.Error(r, "is not valid")
		}
	}
	for _, r := range outside {
		if addr.Valid(r) {
			t.Error(r, "is valid")
		}
	}
}

// P2.2, P2.6
func TestColumns(t *testing.T) {
	for col, want := range map[int]string{1: "A", 2: "B", 26: "Z", 27: "AA", 52: "AZ", 53: "BA", 702: "ZZ", 703: "AAA", 1024: "AMJ"} {
		if s, e := addr.Letters(col); s != want || e != api.OK {
			t.Error("Letters", col, s, e)
		}
	}
	for _, col := range []int{0, -1, 1025, math.MaxInt, math.MinInt} {
		if s, e := addr.Letters(col); s != "" || e != api.ErrRange {
			t.Error("Letters", col, s, e)
		}
	}
	before := ""
	for col := 1; col <= api.MaxCol; col++ {
		s, _ := addr.Letters(col)
		if len(s) < len(before) || len(s) == len(before) && s <= before {
			t.Error("letters are not in order:", before, s)
		}
		before = s
		for _, w := range []string{s, strings.ToLower(s), strings.ToLower(s[:1]) + s[1:]} {
			if c, e := addr.Column(w); c != col || e != api.OK {
				t.Error("Column", w, c, e)
			}
		}
	}
	for _, s := range []string{"AMK", "amk", "ZZZ", "AAAA", strings.Repeat("A", 20), strings.Repeat("Z", 100000)} {
		if c, e := addr.Column(s); c != 0 || e != api.ErrRange {
			t.Error("Column", len(s), c, e)
		}
	}
	for _, s := range []string{"", "A1", "1", "A ", " A", "A-", "É", "A\x00", "@", "[", "`", "{", "AMKAMKAMK1", "A0"} {
		if c, e := addr.Column(s); c != 0 || e != api.ErrForm {
			t.Error("Column", s, c, e)
		}
	}
}

// P2.3
func TestParse(t *testing.T) {
	for s, want := range map[string]api.Ref{"A1": {Col: 1, Row: 1}, "b12": {Col: 2, Row: 12}, "AMJ1024": {Col: 1024, Row: 1024}, "aMj1": {Col: 1024, Row: 1}, "Z9": {Col: 26, Row: 9}, "AA10": {Col: 27, Row: 10}} {
		if r, e := addr.Parse(s); r != want || e != api.OK {
			t.Error("Parse", s, r, e)
		}
	}
	for _, s := range []string{"A1025", "AMK1", "AMK1025", "ZZZZZZZZZZZZZZZZZZZZ1", "A" + strings.Repeat("9", 1000)} {
		if r, e := addr.Parse(s); r != (api.Ref{}) || e != api.ErrRange {
			t.Error("Parse", s, r, e)
		}
	}
	for _, s := range []string{"", "A", "1", "A0", "A01", "1A", "A1 ", " A1", "A 1", "A1A", "A1B2", "$A$1", "A-1", "A+1", "A1:B2", "AMK0", "A9999x", "A1\n", "Ä1", "A１"} {
		if r, e := addr.Parse(s); r != (api.Ref{}) || e != api.ErrForm {
			t.Error("Parse", s, r, e)
		}
	}
}

// P2.3, P2.5, P2.6, P2.7: for all addresses.
func TestAll(t *testing.T) {
	before := api.Ref{Col: math.MaxInt, Row: 0}
	for i := range api.MaxCol * api.MaxRow {
		r, e := addr.At(i)
		if e != api.OK || !addr.Valid(r) || !addr.Less(before, r) || addr.Less(r, before) {
			t.Fatal("At", i, r, e)
		}
		before = r
		if k, e := addr.Index(r); k != i || e != api.OK || k != (r.Row-1)*api.MaxCol+r.Col-1 {
			t.Fatal("Index", r, k, e)
		}
		s, e := addr.Format(r)
		if e != api.OK || s != strings.ToUpper(s) {
			t.Fatal("Format", r, s, e)
		}
		if back, e := addr.Parse(s); back != r || e != api.OK {
			t.Fatal("Parse of", s, back, e)
		}
	}
	for _, r := range outside {
		if s, e := addr.Format(r); s != "" || e != api.ErrRange {
			t.Error("Format", r, s, e)
		}
		if i, e := addr.Index(r); i != 0 || e != api.ErrRange {
			t.Error("Index", r, i, e)
		}
	}
	for _, i := range []int{-1, 1048576, math.MaxInt, math.MinInt} {
		if r, e := addr.At(i); r != (api.Ref{}) || e != api.ErrRange {
			t.Error("At", i, r, e)
		}
	}
	if r, e := addr.At(1023); r != (api.Ref{Col: 1024, Row: 1}) || e != api.OK {
		t.Error("At(1023):", r, e)
	}
	if s, _ := addr.Format(api.Ref{Col: 28, Row: 9}); s != "AB9" {
		t.Error("Format:", s)
	}
}

// P2.4, P2.8: also for addresses that are not in the sheet.
func TestLess(t *testing.T) {
	c1, a2 := api.Ref{Col: 3, Row: 1}, api.Ref{Col: 1, Row: 2}
	if !addr.Less(c1, a2) || addr.Less(a2, c1) || addr.Less(c1, c1) {
		t.Error("C1 comes before A2")
	}
	r := rand.New(rand.NewSource(1))
	pick := func() api.Ref {
		if r.Intn(4) == 0 {
			return outside[r.Intn(len(outside))]
		}
		return api.Ref{Col: r.Intn(4), Row: r.Intn(4)}
	}
	for range 20000 {
		a, b, c := pick(), pick(), pick()
		if addr.Less(a, b) && addr.Less(b, a) || (a != b) != (addr.Less(a, b) || addr.Less(b, a)) {
			t.Fatal("Less is no strict order:", a, b)
		}
		if addr.Less(a, b) && addr.Less(b, c) && !addr.Less(a, c) {
			t.Fatal("Less is not transitive:", a, b, c)
		}
		if addr.Less(a, b) != (a.Row < b.Row || a.Row == b.Row && a.Col < b.Col) {
			t.Fatal("Less:", a, b)
		}
	}
}
