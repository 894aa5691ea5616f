package audit_test

import (
	"math"
	"math/rand"
	"slices"
	"testing"

	"louvre/acl"
	"louvre/api"
	"louvre/audit"
	"louvre/grant"
	"louvre/op"
	"louvre/rect"
	"louvre/sample"
)

// rules is the rules of chapter 19.
func rules() []api.Rule {
	return []api.Rule{sample.Rule("A1:AMJ1024", 7, 7, 1), sample.Rule("B1:B3", 1, 1, 1), sample.Rule("B2:C2", 2, 0, 1)}
}

var set = api.Op{Kind: api.OpSet, User: 1, Rect: sample.Rect("B1"), Input: "5"}

// event is a valid entry for three users.
func event(step int) api.Event {
	return api.Event{Step: step, User: 1, Kind: api.OpSet, Rect: sample.Rect("B1"), To: 3}
}

// release is a valid entry for three users.
func release(step int) api.Release {
	return api.Release{Step: step, Call: api.Call{At: sample.Ref("A3"), Node: 1}, Fn: api.FnDSum, Rect: sample.Rect("B1:B3"), To: 7}
}

// The table of examples.
func TestExamples(t *testing.T) {
	x, e := audit.Event(4, set, false, rules(), nil)
	if x != event(4) || e != api.OK {
		t.Error("Event", x, e)
	}
	if l := audit.Events(0, x); !slices.Equal(l, []api.Event{x}) {
		t.Error("Events", l)
	}
	if l := audit.Events(2, x); l != nil {
		t.Error("Events", l)
	}
	if _, e := audit.Event(4, api.Op{Kind: api.OpRead, User: 1, Rect: sample.Rect("A1")}, true, rules(), nil); e != api.ErrArg {
		t.Error("Event of OpRead", e)
	}
	if _, e := audit.Event(4, api.Op{Kind: api.OpRevoke, User: 1}, true, rules(), nil); e != api.ErrNone {
		t.Error("Event of OpRevoke", e)
	}
	for users, want := range map[int]api.Errno{3: api.OK, 1: api.ErrArg} {
		if e := audit.Check(users, []api.Event{x}, nil); e != want {
			t.Error("Check", users, e)
		}
	}
	if e := audit.Check(3, []api.Event{x, x}, nil); e != api.ErrOrder {
		t.Error("Check", e)
	}
}

// P30.1: the log of operations.
func TestCheckLog(t *testing.T) {
	bad := api.Rect{C1: 2, R1: 1, C2: 1, R2: 1}
	for i, x := range []struct {
		change func(x *api.Event)
		want   api.Errno
	}{
		{func(x *api.Event) {}, api.OK}, {func(x *api.Event) { x.Done = true }, api.OK}, {func(x *api.Event) { x.Step = math.MaxInt }, api.OK}, {func(x *api.Event) { x.Step = 0 }, api.ErrOrder}, {func(x *api.Event) { x.Step = -1 }, api.ErrOrder}, {func(x *api.Event) { x.Step = math.MinInt; x.Kind = 0 }, api.ErrOrder},
		{func(x *api.Event) { x.Kind = api.OpRead }, api.ErrArg}, {func(x *api.Event) { x.Kind = 0; x.Rect = bad }, api.ErrArg}, {func(x *api.Event) { x.Kind = 200 }, api.ErrArg}, {func(x *api.Event) { x.Kind = api.OpRevoke }, api.OK}, {func(x *api.Event) { x.User = 3; x.To = 15 }, api.ErrArg}, {func(x *api.Event) { x.User = -1; x.Rect = bad }, api.ErrArg}, {func(x *api.Event) { x.User = math.MaxInt }, api.ErrArg},
		{func(x *api.Event) { x.Rect = bad; x.To = 8 }, api.ErrRange}, {func(x *api.Event) { x.Rect.C2 = 1025 }, api.ErrRange}, {func(x *api.Event) { x.To = 1 }, api.ErrArg}, {func(x *api.Event) { x.To = 0 }, api.ErrArg}, {func(x *api.Event) { x.To = 10 }, api.ErrArg}, {func(x *api.Event) { x.To = 2 }, api.OK},
	} {
		y := event(5)
		x.change(&y)
		if e := audit.Check(3, []api.Event{event(0), y}, nil); e != x.want {
			t.Error("Check", i, e, "want", x.want)
		}
		if e := audit.Check(3, []api.Event{event(0), y}, []api.Release{{}}); x.want != api.OK && e != x.want {
			t.Error("Check with releases at fault", i, e, "want", x.want)
		}
	}
	if e := audit.Check(3, []api.Event{event(4), event(3), {}}, nil); e != api.ErrOrder {
		t.Error("decreasing steps:", e)
	}
	for _, users := range []int{0, -1, 65, math.MinInt, math.MaxInt} {
		if e := audit.Check(users, []api.Event{event(-1)}, nil); e != api.ErrArg {
			t.Error("Check", users, e)
		}
	}
	if audit.Check(1, nil, nil) != api.OK || audit.Check(64, []api.Event{{User: 63, Kind: api.OpRule, Rect: sample.Whole(), To: 1 << 63}}, nil) != api.OK {
		t.Error("Check of valid logs")
	}
}

// P30.1: the log of releases.
func TestCheckReleases(t *testing.T) {
	for i, x := range []struct {
		change func(x *api.Release)
		want   api.Errno
	}{
		{func(x *api.Release) {}, api.OK}, {func(x *api.Release) { x.Step = 0 }, api.OK}, {func(x *api.Release) { x.Step = math.MaxInt }, api.OK}, {func(x *api.Release) { x.Step = -1 }, api.ErrOrder}, {func(x *api.Release) { x.Step = math.MinInt; x.Rect = api.Rect{} }, api.ErrOrder},
		{func(x *api.Release) { x.Call.At.Col = 0; x.Fn = 0 }, api.ErrRange}, {func(x *api.Release) { x.Call.At.Row = 1025 }, api.ErrRange}, {func(x *api.Release) { x.Rect = api.Rect{}; x.To = 8 }, api.ErrRange}, {func(x *api.Release) { x.Rect.R1 = 9 }, api.ErrRange},
		{func(x *api.Release) { x.Call.Node = -1 }, api.ErrArg}, {func(x *api.Release) { x.Call.Node = 256 }, api.ErrArg}, {func(x *api.Release) { x.Call.Node = 255 }, api.OK}, {func(x *api.Release) { x.Fn = api.FnCountIf }, api.ErrArg}, {func(x *api.Release) { x.Fn = api.FnDMax }, api.OK}, {func(x *api.Release) { x.Fn = api.FnDMax + 1 }, api.ErrArg}, {func(x *api.Release) { x.Grant = -1 }, api.ErrArg}, {func(x *api.Release) { x.Grant = 64 }, api.ErrArg}, {func(x *api.Release) { x.Grant = 63 }, api.OK}, {func(x *api.Release) { x.To = 8 }, api.ErrArg}, {func(x *api.Release) { x.To = 0 }, api.OK},
	} {
		y := release(5)
		x.change(&y)
		if e := audit.Check(3, []api.Event{event(9)}, []api.Release{release(0), y}); e != x.want {
			t.Error("Check", i, e, "want", x.want)
		}
	}
	if e := audit.Check(3, nil, []api.Release{release(-1), release(-1), release(0)}); e != api.OK {
		t.Error("the first steps:", e)
	}
	if e := audit.Check(3, nil, []api.Release{release(-2)}); e != api.ErrOrder {
		t.Error("the step -2:", e)
	}
}

// P30.2, P30.5
func TestSeen(t *testing.T) {
	r := rand.New(rand.NewSource(1))
	for range 500 {
		var log []api.Event
		var releases []api.Release
		for i := range r.Intn(9) {
			log = append(log, api.Event{Step: i, To: uint64(r.Intn(8)) | uint64(r.Intn(2))<<63})
			releases = append(releases, api.Release{Step: i, To: uint64(r.Intn(8)) | uint64(r.Intn(2))<<63})
		}
		for _, user := range []int{0, 1, 2, 3, 63, 64, -1, math.MaxInt, math.MinInt} {
			var events []api.Event
			var shown []api.Release
			for i := range log {
				if user >= 0 && user < 64 && log[i].To>>user&1 == 1 {
					events = append(events, log[i])
				}
				if user >= 0 && user < 64 && releases[i].To>>user&1 == 1 {
					shown = append(shown, releases[i])
				}
			}
			if l := audit.Events(user, log...); !slices.Equal(l, events) {
				t.Fatal("Events", user, log, l)
			}
			if l := audit.Releases(user, releases...); !slices.Equal(l, shown) {
				t.Fatal("Releases", user, releases, l)
			}
			k := r.Intn(len(log) + 1)
			if !audit.Grows(audit.Events(user, log[:k]...), audit.Events(user, log...)) {
				t.Fatal("what is seen of a longer log")
			}
		}
	}
}

// P30.3
func TestEvent(t *testing.T) {
	b := sample.Granted()
	for _, x := range []struct {
		x    api.Op
		r    string
		want uint64
	}{
		{set, "B1", 3}, {api.Op{Kind: api.OpClear, User: 2, Rect: sample.Rect("A1:C9")}, "A1:C9", 5}, {api.Op{Kind: api.OpRule, User: 0, Rect: sample.Rect("A1")}, "A1", 1}, {api.Op{Kind: api.OpGrant, User: 2, Rect: sample.Rect("A1"), Fns: 1}, "A1", 5}, {api.Op{Kind: api.OpRevoke, User: 1}, "B1:B3", 3}, {api.Op{Kind: api.OpSet, User: 63, Rect: sample.Rect("A1"), Input: "=("}, "A1", 1<<63 + 1},
	} {
		for _, done := range []bool{true, false} {
			want := api.Event{Step: 7, User: x.x.User, Kind: x.x.Kind, Rect: sample.Rect(x.r), Done: done, To: x.want}
			if got, e := audit.Event(7, x.x, done, b.Rules, b.Grants); got != want || e != api.OK {
				t.Error("Event", x, got, e)
			}
		}
	}
	owned := append(rules(), sample.Rule("B2", 0, 0, 6))
	if x, e := audit.Event(0, api.Op{Kind: api.OpClear, Rect: sample.Rect("B1:B2")}, true, owned, nil); x.To != 1 || e != api.OK {
		t.Error("a range without an owner:", x, e)
	}
}

// P30.3: errors, in their order.
func TestEventFaults(t *testing.T) {
	b := sample.Granted()
	noRules, noGrant := []api.Rule{b.Rules[0], {}}, []api.Grant{{Rect: sample.Rect("A1")}}
	outside := api.Op{Kind: api.OpClear, Rect: api.Rect{C1: 1, R1: 1, C2: 1025, R2: 1}}
	for i, x := range []struct {
		step   int
		x      api.Op
		rules  []api.Rule
		grants []api.Grant
		want   api.Errno
	}{
		{-1, set, b.Rules, nil, api.ErrArg}, {0, api.Op{Kind: api.OpLogin}, nil, nil, api.ErrArg}, {0, api.Op{Kind: api.OpAudit}, b.Rules, nil, api.ErrArg}, {0, api.Op{}, b.Rules, nil, api.ErrArg}, {0, api.Op{Kind: api.OpSet, Rect: sample.Rect("A1:A2")}, noRules, nil, api.ErrArg}, {0, api.Op{Kind: api.OpSet, Rect: sample.Rect("A1"), Index: 1}, b.Rules, nil, api.ErrArg},
		{0, api.Op{Kind: api.OpClear, User: 64, Rect: sample.Rect("A1")}, noRules, noGrant, api.ErrArg}, {0, api.Op{Kind: api.OpClear, User: -1, Rect: sample.Rect("A1")}, noRules, noGrant, api.ErrArg},
		{0, outside, nil, noGrant, api.ErrArg}, {0, outside, noRules, noGrant, api.ErrRange}, {0, outside, slices.Repeat(b.Rules[:1], 65), noGrant, api.ErrLong}, {0, set, b.Rules, noGrant, api.ErrArg}, {0, set, b.Rules, []api.Grant{{}}, api.ErrRange}, {0, outside, b.Rules, slices.Repeat(b.Grants, 65), api.ErrLong},
		{0, api.Op{Kind: api.OpRevoke, Index: 1}, b.Rules, b.Grants, api.ErrNone}, {0, api.Op{Kind: api.OpRevoke, Index: -1}, b.Rules, b.Grants, api.ErrNone}, {0, api.Op{Kind: api.OpRevoke, Index: math.MaxInt}, b.Rules, b.Grants, api.ErrNone}, {0, api.Op{Kind: api.OpRevoke}, b.Rules, nil, api.ErrNone}, {0, outside, b.Rules, b.Grants, api.ErrRange},
	} {
		if y, e := audit.Event(x.step, x.x, true, x.rules, x.grants); y != (api.Event{}) || e != x.want {
			t.Error("Event", i, y, e, "want", x.want)
		}
	}
	// Grants are judged as package grant judges them.
	r := rand.New(rand.NewSource(2))
	for range 5000 {
		l := make([]api.Grant, r.Intn(3))
		for i := range l {
			l[i] = api.Grant{Rect: sample.Rect([]string{"A1", "B1:B3", "A9999"}[r.Intn(3)]), Fns: uint8(r.Intn(36)), To: r.Uint64(), By: r.Intn(68) - 2, Revoked: r.Intn(2) == 0}
		}
		_, want := grant.Check(api.MaxUsers, l...)
		if _, e := audit.Event(0, set, true, b.Rules, l); e != want {
			t.Fatal("Event", l, e, want)
		}
	}
}

// P30.4
func TestGrows(t *testing.T) {
	a, b, c := event(1), event(2), event(3)
	for _, x := range []struct {
		before, after []api.Event
		want          bool
	}{{nil, nil, true}, {nil, []api.Event{a}, true}, {[]api.Event{a}, nil, false}, {[]api.Event{a, b}, []api.Event{a, b, c}, true}, {[]api.Event{a, c}, []api.Event{a, b, c}, false}, {[]api.Event{b}, []api.Event{a, b}, false}, {[]api.Event{a, b}, []api.Event{a, b}, true}, {[]api.Event{a, b}, []api.Event{a}, false}} {
		if audit.Grows(x.before, x.after) != x.want {
			t.Error("Grows", x)
		}
	}
}

// P30.5, P30.6: entries of operations on random books are valid and seen by their users.
func TestRandom(t *testing.T) {
	r := rand.New(rand.NewSource(3))
	for range 3000 {
		b := sample.Random(r.Intn)
		x := sample.Op(r.Intn, b.Users)
		y, e := audit.Event(3, x, true, b.Rules, b.Grants)
		if e != api.OK {
			continue
		}
		if e := audit.Check(b.Users, []api.Event{y}, nil); x.User < b.Users && e != api.OK {
			t.Fatal("Check of Event", x, y, e)
		}
		if len(audit.Events(x.User, y)) != 1 {
			t.Fatal("the user does not see the entry:", x, y)
		}
		want := uint64(1) << x.User
		for user := range b.Users {
			owns := true
			for _, at := range sample.Cells() {
				rights, _ := acl.At(at, b.Rules...)
				owns = owns && (!rect.Has(y.Rect, at) || rights.Own>>user&1 == 1)
			}
			if owns {
				want |= 1 << user
			}
		}
		if target, ok := op.Target(x); y.To != want || ok && y.Rect != target {
			t.Fatal("Event", b.Rules, x, y, want)
		}
		x.Input = "other"
		if z, _ := audit.Event(3, x, true, b.Rules, b.Grants); x.Kind == api.OpSet && z != y {
			t.Fatal("the entry depends on the input")
		}
	}
}
