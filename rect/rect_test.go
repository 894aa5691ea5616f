package rect_test

import (
	"math"
	"math/rand"
	"slices"
	"strings"
	"testing"

	"louvre/addr"
	"louvre/api"
	"louvre/rect"
)

// outside are ranges that are not valid.
var outside = []api.Rect{{}, {C1: 2, R1: 1, C2: 1, R2: 1}, {C1: 1, R1: 2, C2: 1, R2: 1}, {C1: 0, R1: 1, C2: 1, R2: 1}, {C1: 1, R1: 0, C2: 1, R2: 1}, {C1: 1, R1: 1, C2: 1025, R2: 1}, {C1: 1, R1: 1, C2: 1, R2: 1025}, {C1: math.MinInt, R1: math.MinInt, C2: math.MaxInt, R2: math.MaxInt}, {C1: 1, R1: 1, C2: math.MaxInt, R2: 1}}

func read(t *testing.T, s string) api.Rect {
	t.Helper()
	r, e := rect.Parse(s)
	if e != api.OK {
		t.Fatal(s, e)
	}
	return r
}

func list(t *testing.T, s string) []api.Rect {
	t.Helper()
	var l []api.Rect
	for _, w := range strings.Fields(s) {
		l = append(l, read(t, w))
	}
	return l
}

func text(l ...api.Rect) string {
	var words []string
	for _, r := range l {
		s, _ := rect.Format(r)
		words = append(words, s)
	}
	return strings.Join(words, " ")
}

// small returns a valid range within A1:F6.
func small(r *rand.Rand) api.Rect {
	c, d, e, f := 1+r.Intn(6), 1+r.Intn(6), 1+r.Intn(6), 1+r.Intn(6)
	return api.Rect{C1: min(c, d), R1: min(e, f), C2: max(c, d), R2: max(e, f)}
}

// each calls f for all addresses of A1:G7.
func each(f func(at api.Ref)) {
	for i := range 49 {
		f(api.Ref{Col: 1 + i%7, Row: 1 + i/7})
	}
}

// P3.1
func TestCheck(t *testing.T) {
	for _, s := range []string{"A1", "A1:AMJ1024", "AMJ1024", "B2:B2", "A1:A1024"} {
		if e := rect.Check(read(t, s)); e != api.OK {
			t.Error("Check", s, e)
		}
	}
	for _, r := range outside {
		if e := rect.Check(r); e != api.ErrRange {
			t.Error("Check", r, e)
		}
	}
	for _, at := range []api.Ref{{Col: 3, Row: 4}, {}, {Col: -5, Row: 2000}} {
		one := rect.One(at)
		if one != (api.Rect{C1: at.Col, R1: at.Row, C2: at.Col, R2: at.Row}) || !rect.Has(one, at) {
			t.Error("One", at, one)
		}
	}
	b := read(t, "B2:C4")
	each(func(at api.Ref) {
		if want := at.Col >= 2 && at.Col <= 3 && at.Row >= 2 && at.Row <= 4; rect.Has(b, at) != want {
			t.Error("Has", at)
		}
	})
	if !rect.Has(outside[7], api.Ref{Col: -7, Row: 5000}) || rect.Has(outside[1], api.Ref{Col: 1, Row: 1}) || rect.Has(outside[0], api.Ref{Col: 1}) {
		t.Error("Has of ranges that are not valid")
	}
}

// P3.2, P3.3, P3.7, P3.8
func TestTwo(t *testing.T) {
	r := rand.New(rand.NewSource(1))
	for range 20000 {
		a, b := small(r), small(r)
		m, meets := rect.Meet(a, b)
		parts, e := rect.Minus(a, b)
		if e != api.OK || len(parts) > 4 || !meets && m != (api.Rect{}) || meets && rect.Check(m) != api.OK {
			t.Fatal("Meet or Minus:", text(a, b), m, parts, e)
		}
		inside, area := true, 0
		each(func(at api.Ref) {
			inA, inB, n := rect.Has(a, at), rect.Has(b, at), 0
			for _, p := range parts {
				if rect.Has(p, at) {
					n++
				}
			}
			if rect.Has(m, at) && meets != (inA && inB) || n > 1 || (n == 1) != (inA && !inB) {
				t.Fatal("Meet or Minus:", text(a, b), text(m), text(parts...), at)
			}
			if inA {
				area++
			}
			inside = inside && (!inA || inB)
		})
		if rect.Inside(a, b) != inside || inside != (meets && m == a) {
			t.Fatal("Inside", text(a, b))
		}
		for _, p := range parts {
			n, _ := rect.Area(p)
			area -= n
		}
		if n, _ := rect.Area(m); area != n {
			t.Fatal("the areas do not add up:", text(a, b))
		}
	}
	good := read(t, "A1:B2")
	for _, x := range outside {
		if m, ok := rect.Meet(x, good); ok || m != (api.Rect{}) {
			t.Error("Meet", x, m)
		}
		if m, ok := rect.Meet(good, x); ok || m != (api.Rect{}) {
			t.Error("Meet", x, m)
		}
		if rect.Inside(x, good) || rect.Inside(good, x) || rect.Inside(x, x) {
			t.Error("Inside", x)
		}
		if l, e := rect.Minus(x, good); l != nil || e != api.ErrRange {
			t.Error("Minus", x, l, e)
		}
		if l, e := rect.Minus(good, x); l != nil || e != api.ErrRange {
			t.Error("Minus", x, l, e)
		}
	}
}

// P3.3, and the examples.
func TestMinusOrder(t *testing.T) {
	for _, x := range [][3]string{
		{"A1:C3", "B2:B2", "A1:C1 A2 C2 A3:C3"},
		{"A1:B2", "A1:C9", ""},
		{"A1:B2", "B2:C3", "A1:B1 A2"},
		{"A1:A2", "B1:B2", "A1:A2"},
		{"B2:D9", "A1:C4", "D2:D4 B5:D9"},
		{"A1:AMJ1024", "B1:B1024", "A1:A1024 C1:AMJ1024"},
	} {
		l, e := rect.Minus(read(t, x[0]), read(t, x[1]))
		if text(l...) != x[2] || e != api.OK {
			t.Error("Minus", x, text(l...), e)
		}
	}
	if m, ok := rect.Meet(read(t, "A1:C3"), read(t, "B2:D4")); text(m) != "B2:C3" || !ok {
		t.Error("Meet", m)
	}
	if rect.Inside(read(t, "A1:C3"), read(t, "A1:C2")) || !rect.Inside(read(t, "B2"), read(t, "A1:C3")) {
		t.Error("Inside")
	}
}

// P3.4
func TestAddresses(t *testing.T) {
	for s, want := range map[string]int{"A1:B3": 6, "C9": 1, "A1:AMJ1024": 1048576, "A1:A1024": 1024} {
		if n, e := rect.Area(read(t, s)); n != want || e != api.OK {
			t.Error("Area", s, n, e)
		}
	}
	l, e := rect.Refs(read(t, "A1:B2"))
	if e != api.OK || !slices.Equal(l, []api.Ref{{Col: 1, Row: 1}, {Col: 2, Row: 1}, {Col: 1, Row: 2}, {Col: 2, Row: 2}}) {
		t.Error("Refs", l, e)
	}
	for _, s := range []string{"A1:A1024", "A1:AMJ1", "C3:AH34", "AMJ1024"} {
		r := read(t, s)
		l, e := rect.Refs(r)
		if n, _ := rect.Area(r); len(l) != n || e != api.OK || !slices.IsSortedFunc(l, order) {
			t.Error("Refs", s, len(l), e)
		}
		for _, at := range l {
			if !rect.Has(r, at) {
				t.Error("Refs", s, "has", at)
			}
		}
	}
	for _, s := range []string{"A1:B1024", "A1:AMJ1024", "A1:A1024", "A1:E205"} {
		r := read(t, s)
		n, _ := rect.Area(r)
		if l, e := rect.Refs(r); n > api.MaxRead && (l != nil || e != api.ErrLong) {
			t.Error("Refs", s, len(l), e)
		}
	}
	for _, r := range outside {
		if n, e := rect.Area(r); n != 0 || e != api.ErrRange {
			t.Error("Area", r, n, e)
		}
		if l, e := rect.Refs(r); l != nil || e != api.ErrRange {
			t.Error("Refs", r, l, e)
		}
	}
}

func order(a, b api.Ref) int {
	if addr.Less(a, b) {
		return -1
	}
	return 1
}

// P3.5, P3.9
func TestCovers(t *testing.T) {
	r := rand.New(rand.NewSource(2))
	for range 5000 {
		a, l, want := small(r), make([]api.Rect, r.Intn(8)), true
		for i := range l {
			l[i] = small(r)
		}
		each(func(at api.Ref) {
			want = want && (!rect.Has(a, at) || slices.ContainsFunc(l, func(b api.Rect) bool { return rect.Has(b, at) }))
		})
		before := slices.Clone(l)
		if got, e := rect.Covers(a, l...); got != want || e != api.OK {
			t.Fatal("Covers", text(a), text(l...), got, e)
		}
		if !slices.Equal(before, l) {
			t.Fatal("Covers changes its arguments")
		}
		l = append(l, l...)
		r.Shuffle(len(l), func(i, k int) { l[i], l[k] = l[k], l[i] })
		if got, _ := rect.Covers(a, l...); got != want {
			t.Fatal("Covers depends on order or repetition")
		}
	}
	for s, want := range map[string]bool{"A1:B2 A1:A2 B1:B9": true, "A1:B2 A1:B1 A2": false, "A1": false, "A1 A1": true} {
		l := list(t, s)
		if got, e := rect.Covers(l[0], l[1:]...); got != want || e != api.OK {
			t.Error("Covers", s, got, e)
		}
	}
	good := read(t, "A1:B2")
	for _, x := range outside {
		if got, e := rect.Covers(x, good); got || e != api.ErrRange {
			t.Error("Covers", x, got, e)
		}
		if got, e := rect.Covers(good, good, x); got || e != api.ErrRange {
			t.Error("Covers by", x, got, e)
		}
	}
}

// P3.6, P3.10
func TestText(t *testing.T) {
	for s, want := range map[string]string{"A1": "A1", "b3:A1": "A1:B3", "A1:A1": "A1", "A2:B1": "A1:B2", "amj1024:a1": "A1:AMJ1024"} {
		r, e := rect.Parse(s)
		if got, f := rect.Format(r); got != want || e != api.OK || f != api.OK {
			t.Error("Parse", s, got, e, f)
		}
	}
	for _, s := range []string{"", ":", "A1:", ":A1", "A1:B2:C3", "A1:9", "A9999:x", "x:A9999", "A1 :B2", "A1: B2", "A1,B2", "A0:B1", "A9999:"} {
		if r, e := rect.Parse(s); r != (api.Rect{}) || e != api.ErrForm {
			t.Error("Parse", s, r, e)
		}
	}
	for _, s := range []string{"A9999", "A1:A9999", "A9999:A1", "AMK1:A1", "ZZZ1:ZZZ2"} {
		if r, e := rect.Parse(s); r != (api.Rect{}) || e != api.ErrRange {
			t.Error("Parse", s, r, e)
		}
	}
	for _, r := range outside {
		if s, e := rect.Format(r); s != "" || e != api.ErrRange {
			t.Error("Format", r, s, e)
		}
	}
	p := rand.New(rand.NewSource(3))
	for range 20000 {
		c, d, e, f := 1+p.Intn(1024), 1+p.Intn(1024), 1+p.Intn(1024), 1+p.Intn(1024)
		r := api.Rect{C1: min(c, d), R1: min(e, f), C2: max(c, d), R2: max(e, f)}
		s, _ := rect.Format(r)
		if back, e := rect.Parse(s); back != r || e != api.OK {
			t.Fatal("Parse of Format:", r, s, back, e)
		}
	}
}
