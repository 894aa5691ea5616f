package book_test

import (
	"math"
	"slices"
	"testing"

	"louvre/api"
	"louvre/book"
	"louvre/sample"
)

// P31.1
func TestCheck(t *testing.T) {
	event := api.Event{User: 1, Kind: api.OpSet, Rect: sample.Rect("B1"), To: 3}
	release := api.Release{Step: -1, Call: api.Call{At: sample.Ref("A3"), Node: 1}, Fn: api.FnDSum, Rect: sample.Rect("B1:B3"), To: 7}
	for i, x := range []struct {
		change func(b *api.Book)
		want   api.Errno
	}{
		{func(b *api.Book) {}, api.OK}, {func(b *api.Book) { b.Entries, b.Grants = nil, nil }, api.OK}, {func(b *api.Book) { b.Users = 64 }, api.OK}, {func(b *api.Book) { b.Step = api.MaxStep }, api.OK}, {func(b *api.Book) { b.Log = []api.Event{event}; b.Step = 1 }, api.OK}, {func(b *api.Book) { b.Releases = []api.Release{release} }, api.OK},
		{func(b *api.Book) { b.Users = 0 }, api.ErrArg}, {func(b *api.Book) { b.Users = 65; b.Entries = []api.Entry{{}} }, api.ErrArg}, {func(b *api.Book) { b.Users = -1 }, api.ErrArg}, {func(b *api.Book) { b.Users = 2 }, api.ErrArg},
		{func(b *api.Book) { b.Entries[5].Input = "=("; b.Rules = nil }, api.ErrForm}, {func(b *api.Book) { b.Entries[1].At = b.Entries[0].At }, api.ErrOrder}, {func(b *api.Book) { b.Entries[0].At.Col = 0 }, api.ErrRange}, {func(b *api.Book) { b.Entries[0].Input = "" }, api.ErrArg}, {func(b *api.Book) { b.Entries[2].Input = "=FOO(1)" }, api.ErrName}, {func(b *api.Book) { b.Entries[2].Input = "=ABS()" }, api.ErrCount},
		{func(b *api.Book) { b.Rules = nil; b.Grants[0].Rect = api.Rect{} }, api.ErrArg}, {func(b *api.Book) { b.Rules[1].Rect = api.Rect{}; b.Grants[0].Fns = 0 }, api.ErrRange}, {func(b *api.Book) { b.Rules[1].Rights.Own = 8 }, api.ErrArg}, {func(b *api.Book) { b.Rules = slices.Repeat(b.Rules[:1], 65); b.Grants[0].Fns = 0 }, api.ErrLong},
		{func(b *api.Book) { b.Grants[0].Rect = api.Rect{}; b.Log = []api.Event{{}} }, api.ErrRange}, {func(b *api.Book) { b.Grants[0].To = 8 }, api.ErrArg}, {func(b *api.Book) { b.Grants = slices.Repeat(b.Grants, 65) }, api.ErrLong},
		{func(b *api.Book) { b.Log = []api.Event{event, event}; b.Step = -1 }, api.ErrOrder}, {func(b *api.Book) { release.Rect.C2 = 0; b.Releases = []api.Release{release}; b.Step = -1 }, api.ErrRange},
		{func(b *api.Book) { b.Step = -1 }, api.ErrArg}, {func(b *api.Book) { b.Step = api.MaxStep + 1 }, api.ErrArg}, {func(b *api.Book) { b.Step = math.MinInt }, api.ErrArg}, {func(b *api.Book) { b.Log = []api.Event{event} }, api.ErrArg}, {func(b *api.Book) {
			release.Rect.C2, release.Step = 2, 4
			b.Releases = []api.Release{release}
			b.Step = 4
		}, api.ErrArg}, {func(b *api.Book) { b.Releases = []api.Release{release}; b.Step = 5 }, api.OK},
	} {
		b := sample.Granted()
		x.change(&b)
		if e := book.Check(b); e != x.want {
			t.Error("Check", i, e, "want", x.want)
		}
		if x.want == api.OK {
			continue
		}
		if s, e := book.Input(b, api.Ref{}); s != "" || e != x.want {
			t.Error("Input", i, s, e)
		}
		if after, code, at, e := book.Apply(b, api.Op{}); !book.Equal(after, api.Book{}) || code != 0 || at != 0 || e != x.want {
			t.Error("Apply", i, after, code, at, e)
		}
	}
}

// P31.3
func TestInput(t *testing.T) {
	b := sample.Book()
	for at, want := range map[string]string{"A1": "5", "A2": "=A1+B1", "B2": "20", "C1": "", "AMJ1024": "", "B3": "", "A5": ""} {
		if s, e := book.Input(b, sample.Ref(at)); s != want || e != api.OK {
			t.Error("Input", at, s, e)
		}
	}
	for _, at := range []api.Ref{{}, {Col: 1025, Row: 1}, {Col: 1, Row: math.MaxInt}} {
		if s, e := book.Input(b, at); s != "" || e != api.ErrRange {
			t.Error("Input", at, s, e)
		}
	}
}

// P31.3: any books, also such as are not valid.
func TestCopy(t *testing.T) {
	full := func() api.Book {
		b := sample.Granted()
		b.Log = []api.Event{{Step: 1}}
		b.Releases = []api.Release{{Step: 1}}
		b.Step = 9
		return b
	}
	a := full()
	c := book.Copy(a)
	if !book.Equal(a, c) || !book.Equal(api.Book{}, book.Copy(api.Book{})) || !book.Equal(api.Book{Entries: []api.Entry{}}, api.Book{}) {
		t.Fatal("Copy is not equal")
	}
	for i, change := range []func(b *api.Book){
		func(b *api.Book) { b.Users++ }, func(b *api.Book) { b.Step++ }, func(b *api.Book) { b.Entries[1].Input = "x" }, func(b *api.Book) { b.Entries = b.Entries[:5] }, func(b *api.Book) { b.Rules[1].Rights.Own = 0 }, func(b *api.Book) { b.Rules = b.Rules[:1] }, func(b *api.Book) { b.Grants[0].Revoked = true }, func(b *api.Book) { b.Grants = nil }, func(b *api.Book) { b.Log[0].Done = true }, func(b *api.Book) { b.Log = nil }, func(b *api.Book) { b.Releases[0].To = 1 }, func(b *api.Book) { b.Releases = nil },
	} {
		b := book.Copy(a)
		change(&b)
		if book.Equal(a, b) || book.Equal(b, a) {
			t.Error("Equal", i)
		}
		if !book.Equal(a, full()) {
			t.Fatal("Copy shares memory", i)
		}
	}
}
