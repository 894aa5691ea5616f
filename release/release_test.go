package release_test

import (
	"math/rand"
	"slices"
	"testing"

	"louvre/api"
	"louvre/book"
	"louvre/deps"
	"louvre/grant"
	"louvre/release"
	"louvre/sample"
)

// granted is the book of the examples with the grant of the third one, after one operation.
func granted() api.Book {
	b := sample.Granted()
	b.Step = 1
	return b
}

// entry is the release of the examples.
func entry() api.Release {
	return api.Release{Call: api.Call{At: sample.Ref("A3"), Node: 1}, Fn: api.FnDSum, Rect: sample.Rect("B1:B3"), To: 7}
}

func live(t *testing.T, b api.Book) []api.Release {
	t.Helper()
	l, e := release.Live(b)
	if e != api.OK {
		t.Fatal(b, e)
	}
	return l
}

// The table of examples.
func TestExamples(t *testing.T) {
	b := granted()
	if l := live(t, b); !slices.Equal(l, []api.Release{entry()}) {
		t.Error("Live", l)
	}
	before := b
	before.Grants = nil
	if l, e := release.Fresh(before, b); !slices.Equal(l, []api.Release{entry()}) || e != api.OK {
		t.Error("Fresh", l, e)
	}
	for _, p := range [][2]api.Book{{b, b}, {b, before}} {
		if l, e := release.Fresh(p[0], p[1]); l != nil || e != api.OK {
			t.Error("Fresh", l, e)
		}
	}
	if ok, e := release.Covered(b); ok || e != api.OK {
		t.Error("Covered", ok, e)
	}
	want := b
	want.Releases = []api.Release{entry()}
	if o, e := release.Open(b); !book.Equal(o, want) || e != api.OK || b.Releases != nil {
		t.Error("Open", o, e)
	}
	if ok, e := release.Covered(want); !ok || e != api.OK {
		t.Error("Covered", ok, e)
	}
	revoked := granted()
	revoked.Grants[0].Revoked = true
	for _, b := range []api.Book{revoked, sample.With(b, "A3 =DSUM(B1:B2)"), before, sample.With(b, "A3 =SUM(B1:B3)"), sample.With(b, "A3 =DCOUNT(B1:B3)")} {
		if l := live(t, b); l != nil {
			t.Error("Live", b, l)
		}
	}
}

// P34.1: order, rights of the cells, and grants to nobody.
func TestLive(t *testing.T) {
	b := sample.With(granted(), "B4 =DSUM(B1:B3)+DCOUNT(B1:B3);A3 =DSUM(B1:B3)*DSUM(B1:B3)")
	b.Rules = append(b.Rules, sample.Rule("A3", 5, 0, 0))
	b.Grants = append(b.Grants, api.Grant{Rect: sample.Rect("B1:B3"), Fns: 3, To: 0}, api.Grant{Rect: sample.Rect("B1:B3"), Fns: 3, To: 4}, api.Grant{Rect: sample.Rect("B1:B3"), Fns: 1, To: 4, By: 1})
	b.Step = 9
	var want []api.Release
	for _, x := range []struct {
		at    string
		node  int
		fn    uint8
		grant int
		to    uint64
	}{{"A3", 1, api.FnDSum, 0, 5}, {"A3", 1, api.FnDSum, 2, 5}, {"A3", 3, api.FnDSum, 0, 5}, {"A3", 3, api.FnDSum, 2, 5}, {"B4", 1, api.FnDSum, 0, 7}, {"B4", 1, api.FnDSum, 2, 7}, {"B4", 3, api.FnDCount, 2, 7}} {
		want = append(want, api.Release{Step: 8, Call: api.Call{At: sample.Ref(x.at), Node: x.node}, Fn: x.fn, Rect: sample.Rect("B1:B3"), Grant: x.grant, To: x.to})
	}
	if l := live(t, b); !slices.Equal(l, want) {
		t.Error("Live", l, "want", want)
	}
	b.Step = 0
	if o, e := release.Open(b); len(o.Releases) != 7 || o.Releases[0].Step != -1 || book.Check(o) != api.OK || e != api.OK {
		t.Error("Open at the first step:", o, e)
	}
}

// P34.3: what is the same release.
func TestCovered(t *testing.T) {
	for i, change := range []func(x *api.Release){func(x *api.Release) {}, func(x *api.Release) { x.To = 0 }, func(x *api.Release) { x.Step = -1 }, func(x *api.Release) { x.Call.At.Col = 2 }, func(x *api.Release) { x.Call.Node = 3 }, func(x *api.Release) { x.Fn = api.FnDMax }, func(x *api.Release) { x.Rect.R2 = 4 }, func(x *api.Release) { x.Grant = 1 }} {
		b := granted()
		x := entry()
		change(&x)
		b.Releases = []api.Release{x}
		want := i < 3
		if ok, e := release.Covered(b); ok != want || e != api.OK {
			t.Error("Covered", i, ok, e)
		}
		o, e := release.Open(b)
		if n := len(o.Releases); e != api.OK || o.Releases[0] != x || want && n != 1 || !want && (n != 2 || o.Releases[1] != entry()) {
			t.Error("Open", i, o.Releases, e)
		}
	}
}

// P34.1 to P34.6
func TestRandom(t *testing.T) {
	r := rand.New(rand.NewSource(1))
	found := 0
	for range 300 {
		b := sample.Random(r.Intn)
		g, _ := deps.New(b.Entries...)
		var want []api.Release
		for _, at := range g.Formulas() {
			for _, u := range g.Uses(at) {
				for i, x := range b.Grants {
					if ok, _ := grant.Live(x, b.Rules...); u.Fn == 0 || !ok || x.Rect != u.Rect || !grant.Names(x.Fns, u.Fn) || x.To == 0 {
						continue
					}
					y := api.Release{Step: -1, Call: api.Call{At: at, Node: u.Node}, Fn: u.Fn, Rect: u.Rect, Grant: i}
					for user := range b.Users {
						if sample.Reads(b, user, at) {
							y.To |= 1 << user
						}
					}
					want = append(want, y)
				}
			}
		}
		found += len(want)
		if l := live(t, b); !slices.Equal(l, want) {
			t.Fatal("Live", b, l, want)
		}
		o, e := release.Open(b)
		again, f := release.Open(o)
		if ok, _ := release.Covered(o); e != api.OK || f != api.OK || !ok || book.Check(o) != api.OK || !book.Equal(o, again) {
			t.Fatal("Open", b, o, again)
		}
		for range 10 {
			x := sample.Op(r.Intn, b.Users)
			after, code, _, _ := book.Apply(o, x)
			fresh, e := release.Fresh(o, after)
			changes := code == api.Done && (x.Kind >= api.OpSet && x.Kind <= api.OpClear || x.Kind >= api.OpRule && x.Kind <= api.OpRevoke)
			if e != api.OK || !changes && fresh != nil {
				t.Fatal("Fresh", o, x, fresh, e)
			}
			after.Releases = append(after.Releases, fresh...)
			if ok, e := release.Covered(after); !ok || e != api.OK || book.Check(after) != api.OK {
				t.Fatal("the book after", x, "is not covered", e)
			}
			o = after
		}
	}
	if found < 50 {
		t.Error("only", found, "releases")
	}
}

// The errors.
func TestFaults(t *testing.T) {
	good, bad, worse := sample.Book(), sample.Book(), sample.Book()
	bad.Step = -1
	worse.Entries[0].Input = "=("
	for _, b := range []api.Book{{}, bad, worse} {
		want := book.Check(b)
		if l, e := release.Live(b); l != nil || e != want {
			t.Error("Live", l, e)
		}
		if l, e := release.Fresh(b, api.Book{}); l != nil || e != want {
			t.Error("Fresh", l, e)
		}
		if l, e := release.Fresh(good, b); l != nil || e != want {
			t.Error("Fresh", l, e)
		}
		if ok, e := release.Covered(b); ok || e != want {
			t.Error("Covered", ok, e)
		}
		if o, e := release.Open(b); !book.Equal(o, api.Book{}) || e != want {
			t.Error("Open", o, e)
		}
	}
}
