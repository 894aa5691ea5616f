package region_test

import (
	"math"
	"math/rand"
	"slices"
	"strings"
	"testing"

	"louvre/acl"
	"louvre/api"
	"louvre/rect"
	"louvre/region"
	"louvre/sample"
)

func text(l ...api.Rect) string {
	var words []string
	for _, r := range l {
		s, _ := rect.Format(r)
		words = append(words, s)
	}
	return strings.Join(words, " ")
}

// example is the rules of chapter 19.
func example() []api.Rule {
	return []api.Rule{sample.Rule("A1:AMJ1024", 7, 7, 1), sample.Rule("B1:B3", 1, 1, 1), sample.Rule("B2:C2", 2, 0, 1)}
}

// random returns rules with ranges in A1:H8.
func random(r *rand.Rand) []api.Rule {
	l := []api.Rule{sample.Rule("A1:AMJ1024", uint64(r.Intn(8)), uint64(r.Intn(8)), uint64(r.Intn(8)))}
	for range r.Intn(8) {
		x := small(r)
		l = append(l, api.Rule{Rect: x, Rights: api.Rights{Read: uint64(r.Intn(4)), Write: uint64(r.Intn(8)), Own: uint64(r.Intn(8))}})
	}
	return l
}

func small(r *rand.Rand) api.Rect {
	c, d, e, f := 1+r.Intn(8), 1+r.Intn(8), 1+r.Intn(8), 1+r.Intn(8)
	return api.Rect{C1: min(c, d), R1: min(e, f), C2: max(c, d), R2: max(e, f)}
}

func inOrder(l []api.Rect) bool {
	return slices.IsSortedFunc(l, func(a, b api.Rect) int {
		if a.R1 != b.R1 {
			return a.R1 - b.R1
		}
		return a.C1 - b.C1
	})
}

// in returns the indices of the ranges that have an address.
func in(at api.Ref, l []api.Rect) []int {
	var found []int
	for i, r := range l {
		if rect.Has(r, at) {
			found = append(found, i)
		}
	}
	return found
}

// The table of examples.
func TestExamples(t *testing.T) {
	l := example()
	for s, want := range map[string]api.Rights{"A1:B1": {Read: 1, Write: 1, Own: 1}, "B1:B3": {Own: 1}, "A1:A9": {Read: 7, Write: 7, Own: 1}, "A1:AMJ1024": {Own: 1}} {
		if o, e := region.Over(sample.Rect(s), l...); o != want || e != api.OK {
			t.Error("Over", s, o, e)
		}
	}
	parts, which, e := region.Parts(sample.Rect("B1:B3"), l...)
	if text(parts...) != "B1 B2 B3" || !slices.Equal(which, []int{1, 2, 1}) || e != api.OK {
		t.Error("Parts", parts, which, e)
	}
	if w, o, e := region.May(0, sample.Rect("B1:B3"), l...); w || !o || e != api.OK {
		t.Error("May", w, o, e)
	}
	if w, o, e := region.May(1, sample.Rect("A1"), l...); !w || o || e != api.OK {
		t.Error("May", w, o, e)
	}
	d, e := region.Differ(sample.Rect("A1:C3"), l[:1], l)
	for i, want := range []bool{false, true, false, false, true, true, false, true, false} {
		if at := (api.Ref{Col: 1 + i%3, Row: 1 + i/3}); (len(in(at, d)) == 1) != want || e != api.OK {
			t.Error("Differ", at, text(d...), e)
		}
	}
}

// P20.1 to P20.4, address by address.
func TestRandom(t *testing.T) {
	r := rand.New(rand.NewSource(1))
	for range 3000 {
		a, b, x := random(r), random(r), small(r)
		parts, which, e := region.Parts(x, a...)
		if e != api.OK || len(parts) != len(which) || !inOrder(parts) {
			t.Fatal("Parts", x, a, parts, which, e)
		}
		differ, e := region.Differ(x, a, b)
		if e != api.OK || !inOrder(differ) {
			t.Fatal("Differ", x, a, b, differ, e)
		}
		over := api.Rights{Read: math.MaxUint64, Write: math.MaxUint64, Own: math.MaxUint64}
		for i := range 100 {
			at := api.Ref{Col: 1 + i%10, Row: 1 + i/10}
			found, inside := in(at, parts), rect.Has(x, at)
			k, _ := acl.Which(at, a...)
			if inside && (len(found) != 1 || which[found[0]] != k) || !inside && found != nil {
				t.Fatal("Parts", x, a, at, found)
			}
			ra, _ := acl.At(at, a...)
			rb, _ := acl.At(at, b...)
			want := 0
			if inside && ra.Read != rb.Read {
				want = 1
			}
			if len(in(at, differ)) != want {
				t.Fatal("Differ", x, a, b, at)
			}
			if inside {
				over = api.Rights{Read: over.Read & ra.Read, Write: over.Write & ra.Write, Own: over.Own & ra.Own}
			}
		}
		if o, e := region.Over(x, a...); o != over || e != api.OK {
			t.Fatal("Over", x, a, o, over, e)
		}
		for user := range 64 {
			if w, o, e := region.May(user, x, a...); w != (over.Write>>user&1 == 1) || o != (over.Own>>user&1 == 1) || e != api.OK {
				t.Fatal("May", user, x, a, w, o, e)
			}
		}
	}
}

// P20.4, P20.5
func TestLaws(t *testing.T) {
	r := rand.New(rand.NewSource(2))
	for range 3000 {
		a, x, y := random(r), small(r), small(r)
		m, meets := rect.Meet(x, y)
		before, _ := region.Over(x, a...)
		if part, _ := region.Over(m, a...); meets && (before.Read&^part.Read != 0 || before.Write&^part.Write != 0 || before.Own&^part.Own != 0) {
			t.Fatal("Over of a part:", x, m, a)
		}
		after, _ := region.Over(x, append(a, api.Rule{Rect: y, Rights: api.Rights{Read: 3}})...)
		if !meets && after != before {
			t.Fatal("a rule beside the range:", x, y, a)
		}
	}
}

// P20.1: many rules.
func TestMany(t *testing.T) {
	r := rand.New(rand.NewSource(3))
	whole := sample.Rect("A1:AMJ1024")
	for i := range 6 {
		l := []api.Rule{sample.Rule("A1:AMJ1024", 1, 1, 1)}
		for k := 1; k < 64; k++ {
			c, d := 1+r.Intn(1024), 1+r.Intn(1024)
			e, f := 1+r.Intn(1024), 1+r.Intn(1024)
			x := api.Rect{C1: min(c, d), R1: min(e, f), C2: max(c, d), R2: max(e, f)}
			if i%2 == 1 && k%2 == 0 {
				x.C1, x.C2 = 16*k, 16*k
				x.R1, x.R2 = 1, 1024
			} else if i%2 == 1 {
				x.R1, x.R2 = 16*k, 16*k
				x.C1, x.C2 = 1, 1024
			}
			l = append(l, api.Rule{Rect: x, Rights: api.Rights{Read: uint64(k)}})
		}
		parts, _, e := region.Parts(whole, l...)
		area := 0
		for _, p := range parts {
			n, _ := rect.Area(p)
			area += n
		}
		if e != api.OK || len(parts) > 4*api.MaxRules*api.MaxRules || area != 1<<20 || !inOrder(parts) {
			t.Error("Parts of the whole sheet:", len(parts), area, e)
		}
	}
}

// The errors, in their order.
func TestFaults(t *testing.T) {
	good, bad, one := example(), []api.Rule{{}}, sample.Rect("A1")
	wrong := api.Rect{C1: 2, R1: 1, C2: 1, R2: 1}
	for _, x := range []struct {
		r     api.Rect
		rules []api.Rule
		e     api.Errno
	}{{wrong, good, api.ErrRange}, {wrong, nil, api.ErrRange}, {api.Rect{}, good, api.ErrRange}, {one, nil, api.ErrArg}, {one, bad, api.ErrArg}, {one, append(good, bad...), api.ErrRange}, {one, slices.Repeat(good, 22), api.ErrLong}} {
		if p, w, e := region.Parts(x.r, x.rules...); p != nil || w != nil || e != x.e {
			t.Error("Parts", x, p, w, e)
		}
		if o, e := region.Over(x.r, x.rules...); o != (api.Rights{}) || e != x.e {
			t.Error("Over", x, o, e)
		}
		if w, o, e := region.May(-1, x.r, x.rules...); w || o || e != x.e {
			t.Error("May", x, w, o, e)
		}
		if l, e := region.Differ(x.r, x.rules, good); l != nil || e != x.e {
			t.Error("Differ", x, l, e)
		}
		if l, e := region.Differ(x.r, good, x.rules); l != nil || e != x.e {
			t.Error("Differ", x, l, e)
		}
	}
	if _, e := region.Differ(one, append(good, bad...), bad); e != api.ErrRange {
		t.Error("Differ returns the error of the second rules first:", e)
	}
	for _, user := range []int{-1, 64, math.MaxInt, math.MinInt} {
		if w, o, e := region.May(user, one, good...); w || o || e != api.ErrArg {
			t.Error("May", user, w, o, e)
		}
	}
}
