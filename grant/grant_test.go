package grant_test

import (
	"math"
	"math/rand"
	"slices"
	"testing"

	"louvre/api"
	"louvre/grant"
	"louvre/rect"
	"louvre/sample"
)

func rule(s string, own uint64) api.Rule {
	return sample.Rule(s, 0, 0, own)
}

// example is the rules of chapter 19 and the grants of the chapter.
func example() ([]api.Rule, []api.Grant) {
	rules := []api.Rule{
		{Rect: sample.Rect("A1:AMJ1024"), Rights: api.Rights{Read: 7, Write: 7, Own: 1}},
		{Rect: sample.Rect("B1:B3"), Rights: api.Rights{Read: 1, Write: 1, Own: 1}},
		{Rect: sample.Rect("B2:C2"), Rights: api.Rights{Read: 2, Own: 1}},
	}
	return rules, []api.Grant{{Rect: sample.Rect("B1:B3"), Fns: 1, To: 2}, {Rect: sample.Rect("B1:B3"), Fns: 3, To: 4}, {Rect: sample.Rect("B1:B3"), Fns: 1, To: 4, By: 1}}
}

// P21.1
func TestCheck(t *testing.T) {
	_, l := example()
	good := l[0]
	with := func(change func(g *api.Grant)) []api.Grant {
		g := good
		change(&g)
		return []api.Grant{good, g, {}}
	}
	many := slices.Repeat(l[:1], 64)
	for i, x := range []struct {
		users  int
		grants []api.Grant
		at     int
		e      api.Errno
	}{
		{3, l, 0, api.OK}, {3, nil, 0, api.OK}, {1, l[:1], 0, api.ErrArg}, {2, l, 1, api.ErrArg}, {0, nil, 0, api.ErrArg}, {65, nil, 0, api.ErrArg}, {-1, many, 0, api.ErrArg}, {math.MaxInt, l, 0, api.ErrArg},
		{3, many, 0, api.OK}, {3, append(many, good), 64, api.ErrLong}, {3, append([]api.Grant{{}}, many...), 64, api.ErrLong},
		{3, with(func(g *api.Grant) { g.Fns = 32 }), 1, api.ErrArg}, {3, with(func(g *api.Grant) { g.Fns = 0 }), 1, api.ErrArg}, {3, with(func(g *api.Grant) { g.Fns = 255 }), 1, api.ErrArg}, {3, with(func(g *api.Grant) { g.Fns = 31 }), 2, api.ErrRange}, {3, with(func(g *api.Grant) { g.To = 8 }), 1, api.ErrArg}, {3, with(func(g *api.Grant) { g.To = 0 }), 2, api.ErrRange},
		{3, with(func(g *api.Grant) { g.By = 3 }), 1, api.ErrArg}, {3, with(func(g *api.Grant) { g.By = -1 }), 1, api.ErrArg}, {64, with(func(g *api.Grant) { g.By = 63; g.To = 1 << 63 }), 2, api.ErrRange}, {3, with(func(g *api.Grant) { g.Revoked = true }), 2, api.ErrRange}, {3, with(func(g *api.Grant) { g.Rect = api.Rect{}; g.Fns = 0 }), 1, api.ErrRange}, {3, with(func(g *api.Grant) { g.Rect.C2 = 1025 }), 1, api.ErrRange},
	} {
		if at, e := grant.Check(x.users, x.grants...); at != x.at || e != x.e {
			t.Error("Check", i, at, e, "want", x.at, x.e)
		}
	}
}

// P21.2
func TestLive(t *testing.T) {
	rules, l := example()
	revoked := l[0]
	revoked.Revoked = true
	for i, x := range []struct {
		g     api.Grant
		rules []api.Rule
		want  bool
		e     api.Errno
	}{
		{l[0], rules, true, api.OK}, {l[1], rules, true, api.OK}, {l[2], rules, false, api.OK}, {revoked, rules, false, api.OK}, {l[0], append(rules, rule("B3", 2)), false, api.OK}, {l[0], append(rules, rule("B4", 2)), true, api.OK}, {l[2], append(rules, rule("A1:C3", 2)), true, api.OK}, {l[2], append(rules, rule("A1:C2", 2)), false, api.OK},
		{api.Grant{}, nil, false, api.ErrRange}, {api.Grant{Rect: l[0].Rect}, nil, false, api.ErrArg}, {l[0], nil, false, api.ErrArg}, {l[0], []api.Rule{rules[0], {}}, false, api.ErrRange}, {revoked, slices.Repeat(rules, 22), false, api.ErrLong}, {api.Grant{Rect: l[0].Rect, Fns: 1, By: 64}, rules, false, api.ErrArg},
	} {
		if ok, e := grant.Live(x.g, x.rules...); ok != x.want || e != x.e {
			t.Error("Live", i, ok, e)
		}
	}
}

// P21.3
func TestFor(t *testing.T) {
	rules, l := example()
	for i, x := range []struct {
		fn     uint8
		r      api.Rect
		rules  []api.Rule
		grants []api.Grant
		to     uint64
		by     []int
		e      api.Errno
	}{
		{api.FnDSum, sample.Rect("B1:B3"), rules, l, 6, []int{0, 1}, api.OK}, {api.FnDCount, sample.Rect("B1:B3"), rules, l, 4, []int{1}, api.OK}, {api.FnDSum, sample.Rect("B1:B2"), rules, l, 0, nil, api.OK}, {api.FnDMax, sample.Rect("B1:B3"), rules, l, 0, nil, api.OK}, {api.FnDSum, sample.Rect("B1:B3"), rules, nil, 0, nil, api.OK},
		{api.FnDSum, sample.Rect("B1:B3"), append(rules, rule("A1:C3", 2)), l, 4, []int{2}, api.OK}, {api.FnDMin, sample.Rect("C9"), rules, []api.Grant{{Rect: sample.Rect("C9"), Fns: 8, To: 0}}, 0, []int{0}, api.OK}, {api.FnDAvg, sample.Rect("C9"), rules, []api.Grant{{Rect: sample.Rect("C9"), Fns: 31, To: 1}, {Rect: sample.Rect("C9"), Fns: 31, To: 2, Revoked: true}}, 1, []int{0}, api.OK},
		{api.FnSum, sample.Rect("B1:B3"), rules, l, 0, nil, api.ErrArg}, {0, api.Rect{}, nil, nil, 0, nil, api.ErrArg}, {51, sample.Rect("A1"), rules, l, 0, nil, api.ErrArg}, {api.FnDSum, api.Rect{}, nil, nil, 0, nil, api.ErrRange}, {api.FnDSum, sample.Rect("A1"), nil, []api.Grant{{}}, 0, nil, api.ErrArg}, {api.FnDSum, sample.Rect("A1"), []api.Rule{rules[0], {}}, []api.Grant{{Rect: sample.Rect("A1")}}, 0, nil, api.ErrRange}, {api.FnDSum, sample.Rect("A1"), rules, []api.Grant{{}}, 0, nil, api.ErrRange}, {api.FnDSum, sample.Rect("A1"), rules, []api.Grant{{Rect: sample.Rect("A1")}}, 0, nil, api.ErrArg}, {api.FnDSum, sample.Rect("A1"), rules, slices.Repeat(l, 22), 0, nil, api.ErrLong},
	} {
		if to, by, e := grant.For(x.fn, x.r, x.rules, x.grants); to != x.to || !slices.Equal(by, x.by) || e != x.e {
			t.Error("For", i, to, by, e)
		}
	}
}

// P21.4
func TestNames(t *testing.T) {
	for fns := range 256 {
		for fn := range 256 {
			want := fn >= 46 && fn <= 50 && fns>>(fn-46)&1 == 1
			if grant.Names(uint8(fns), uint8(fn)) != want {
				t.Error("Names", fns, fn)
			}
		}
	}
}

// P21.5, P21.6
func TestLaws(t *testing.T) {
	r := rand.New(rand.NewSource(1))
	ranges := []api.Rect{sample.Rect("A1"), sample.Rect("A1:B2"), sample.Rect("B2:C3"), sample.Rect("C3")}
	random := func() []api.Grant {
		l := make([]api.Grant, r.Intn(5))
		for i := range l {
			l[i] = api.Grant{Rect: ranges[r.Intn(4)], Fns: uint8(1 + r.Intn(31)), To: uint64(r.Intn(16)), By: r.Intn(3), Revoked: r.Intn(5) == 0}
		}
		return l
	}
	for range 5000 {
		rules := []api.Rule{rule("A1:AMJ1024", uint64(r.Intn(8)))}
		for range r.Intn(3) {
			rules = append(rules, rule([]string{"A1", "B2", "A1:A9", "C3:D4"}[r.Intn(4)], uint64(r.Intn(8))))
		}
		a, b := random(), random()
		fn, x := api.FnDSum+uint8(r.Intn(5)), ranges[r.Intn(4)]
		toA, byA, _ := grant.For(fn, x, rules, a)
		toB, byB, _ := grant.For(fn, x, rules, b)
		to, by, e := grant.For(fn, x, rules, append(slices.Clone(a), b...))
		for i := range byB {
			byB[i] += len(a)
		}
		if to != toA|toB || !slices.Equal(by, append(byA, byB...)) || e != api.OK {
			t.Fatal("For of two lists:", fn, x, a, b, to, by, e)
		}
		for i, g := range a {
			live, e := grant.Live(g, rules...)
			if want := live && g.Rect == x && grant.Names(g.Fns, fn); slices.Contains(byA, i) != want || e != api.OK {
				t.Fatal("For", fn, x, i, a, byA)
			}
			y := ranges[r.Intn(4)]
			after, _ := grant.Live(g, append(rules, api.Rule{Rect: y})...)
			if _, meets := rect.Meet(g.Rect, y); !meets && after != live || meets && after {
				t.Fatal("a further rule:", g, y, live, after)
			}
		}
	}
}
