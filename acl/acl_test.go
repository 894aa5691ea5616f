package acl_test

import (
	"math"
	"math/rand"
	"slices"
	"testing"

	"louvre/acl"
	"louvre/api"
	"louvre/rect"
	"louvre/sample"
)

// example is the rules of the chapter.
func example() []api.Rule {
	return []api.Rule{sample.Rule("A1:AMJ1024", 7, 7, 1), sample.Rule("B1:B3", 1, 1, 1), sample.Rule("B2:C2", 2, 0, 1)}
}

func at(col, row int) api.Ref { return api.Ref{Col: col, Row: row} }

// P19.1
func TestCheck(t *testing.T) {
	l := example()
	many := slices.Repeat(l[:1], 64)
	bad := api.Rule{Rights: api.Rights{Read: 1 << 63}}
	for i, x := range []struct {
		users int
		rules []api.Rule
		at    int
		e     api.Errno
	}{
		{3, l, 0, api.OK}, {2, l, 0, api.ErrArg}, {3, l[1:], 0, api.ErrArg}, {64, l, 0, api.OK}, {0, l, 0, api.ErrArg}, {-1, l, 0, api.ErrArg}, {65, l, 0, api.ErrArg}, {math.MinInt, l, 0, api.ErrArg}, {0, append(many, bad), 0, api.ErrArg},
		{3, nil, 0, api.ErrArg}, {3, many, 0, api.OK}, {3, append(many, l[0]), 64, api.ErrLong}, {3, append(many[:63:63], bad, bad), 64, api.ErrLong}, {3, append([]api.Rule{bad}, many...), 64, api.ErrLong},
		{3, []api.Rule{l[0], l[1], bad}, 2, api.ErrRange}, {3, []api.Rule{l[0], sample.Rule("A1", 8, 0, 0), bad}, 1, api.ErrArg}, {3, []api.Rule{l[0], sample.Rule("A1", 0, 8, 0)}, 1, api.ErrArg}, {3, []api.Rule{l[0], sample.Rule("A1", 0, 0, 8)}, 1, api.ErrArg}, {4, []api.Rule{l[0], sample.Rule("A1", 8, 8, 8)}, 0, api.OK}, {2, []api.Rule{l[0], bad}, 0, api.ErrArg},
		{3, []api.Rule{sample.Rule("A1:AMJ1023", 1, 1, 1)}, 0, api.ErrArg}, {3, []api.Rule{l[0], {Rect: api.Rect{C1: 2, R1: 1, C2: 1, R2: 1}, Rights: api.Rights{Own: 8}}}, 1, api.ErrRange}, {64, []api.Rule{sample.Rule("A1:AMJ1024", math.MaxUint64, 0, math.MaxUint64)}, 0, api.OK}, {1, []api.Rule{sample.Rule("A1:AMJ1024", 1, 1, 1)}, 0, api.OK},
	} {
		if k, e := acl.Check(x.users, x.rules...); k != x.at || e != x.e {
			t.Error("Check", i, k, e, "want", x.at, x.e)
		}
	}
}

// P19.2
func TestWhich(t *testing.T) {
	l := example()
	for ref, want := range map[api.Ref]int{at(1, 1): 0, at(2, 3): 1, at(2, 2): 2, at(3, 2): 2, at(2, 1): 1, at(1024, 1024): 0} {
		if i, e := acl.Which(ref, l...); i != want || e != api.OK {
			t.Error("Which", ref, i, e)
		}
		if r, e := acl.At(ref, l...); r != l[want].Rights || e != api.OK {
			t.Error("At", ref, r, e)
		}
	}
	if r, e := acl.At(at(2, 2), l...); r != (api.Rights{Read: 2, Own: 1}) || e != api.OK {
		t.Error("At B2:", r, e)
	}
	for ref, x := range map[api.Ref]struct {
		rules []api.Rule
		e     api.Errno
	}{
		at(0, 1): {l, api.ErrRange}, at(1025, 1): {nil, api.ErrRange}, at(1, math.MinInt): {l, api.ErrRange}, at(1, 1): {nil, api.ErrArg}, at(2, 2): {l[1:], api.ErrArg}, at(3, 3): {slices.Repeat(l[:1], 65), api.ErrLong}, at(4, 4): {[]api.Rule{l[0], {}}, api.ErrRange},
	} {
		if i, e := acl.Which(ref, x.rules...); i != 0 || e != x.e {
			t.Error("Which", ref, i, e)
		}
		if r, e := acl.At(ref, x.rules...); r != (api.Rights{}) || e != x.e {
			t.Error("At", ref, r, e)
		}
	}
}

// P19.3
func TestPlain(t *testing.T) {
	l := example()
	for _, x := range []struct {
		rules []api.Rule
		want  []int
	}{
		{l, []int{0, 1, 2}}, {append(l, sample.Rule("B1:B3", 1, 0, 0)), []int{0, 2, 3}}, {append(l, sample.Rule("B1", 1, 0, 0)), []int{0, 1, 2, 3}}, {append(l, sample.Rule("B1", 1, 0, 0), sample.Rule("B3:B9", 1, 0, 0)), []int{0, 2, 3, 4}}, {append(l, sample.Rule("A1:AMJ1024", 1, 0, 0)), []int{0, 3}}, {append(l, sample.Rule("A1:AMJ512", 1, 0, 0), sample.Rule("A513:AMJ1024", 1, 0, 0)), []int{0, 3, 4}}, {l[:1], []int{0}}, {append(l, l[1]), []int{0, 2, 3}},
	} {
		var want []api.Rule
		for _, i := range x.want {
			want = append(want, x.rules[i])
		}
		if got, e := acl.Plain(x.rules...); !slices.Equal(got, want) || e != api.OK {
			t.Error("Plain", got, e, "want", want)
		}
	}
	for e, rules := range map[api.Errno][]api.Rule{api.ErrArg: nil, api.ErrLong: slices.Repeat(l[:1], 65), api.ErrRange: {l[0], {}}} {
		if got, f := acl.Plain(rules...); got != nil || f != e {
			t.Error("Plain", got, f)
		}
	}
}

// P19.4, P19.5
func TestLaws(t *testing.T) {
	r := rand.New(rand.NewSource(1))
	refs, _ := rect.Refs(api.Rect{C1: 1, R1: 1, C2: 5, R2: 5})
	for range 2000 {
		l := []api.Rule{sample.Rule("A1:AMJ1024", r.Uint64(), 0, 1)}
		for i := range r.Intn(7) {
			c, d := 1+r.Intn(4), 1+r.Intn(4)
			l = append(l, api.Rule{Rect: api.Rect{C1: c, R1: d, C2: c + r.Intn(3), R2: d + r.Intn(3)}, Rights: api.Rights{Write: uint64(i + 1)}})
		}
		before := slices.Clone(l)
		plain, e := acl.Plain(l...)
		again, f := acl.Plain(plain...)
		if e != api.OK || f != api.OK || !slices.Equal(plain, again) || !slices.Equal(before, l) {
			t.Fatal("Plain", l, plain, again)
		}
		last := l[len(l)-1]
		for _, ref := range refs {
			a, _ := acl.At(ref, l...)
			b, _ := acl.At(ref, plain...)
			if a != b {
				t.Fatal("Plain changes the rights of", ref, l, plain)
			}
			want := last.Rights
			if !rect.Has(last.Rect, ref) {
				want, _ = acl.At(ref, l[:len(l)-1]...)
			}
			if len(l) > 1 && a != want {
				t.Fatal("the last rule:", ref, l)
			}
		}
	}
}
