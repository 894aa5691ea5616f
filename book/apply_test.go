package book_test

import (
	"math/rand"
	"slices"
	"strings"
	"testing"

	"louvre/acl"
	"louvre/api"
	"louvre/audit"
	"louvre/book"
	"louvre/entry"
	"louvre/op"
	"louvre/rect"
	"louvre/sample"
)

func do(t *testing.T, b api.Book, line string) (api.Book, uint8, int) {
	t.Helper()
	x, e := op.Parse(line)
	if e != api.OK {
		t.Fatal(line)
	}
	after, code, at, e := book.Apply(b, x)
	if e != api.OK {
		t.Fatal(line, e)
	}
	return after, code, at
}

// The table of examples, and all codes.
func TestCodes(t *testing.T) {
	b := sample.Granted()
	b.Grants = append(b.Grants, sample.Grant(), api.Grant{Rect: sample.Rect("A1"), Fns: 1, By: 1})
	b.Grants[1].Revoked = true
	for line, want := range map[string]struct {
		code uint8
		at   int
	}{
		"set 1 B1 \"5\"": {api.Refused, 0}, "set 1 A1 \"=(\"": {api.Syntax, 2}, "set 1 A1 \"\"": {api.Done, 0}, "clear 0 A1:A3": {api.Done, 0}, "read 3 A1": {api.Unknown, 0}, "grant 1 A1 1 3": {api.Unknown, 0}, "rule 1 A1 - - -": {api.Refused, 0}, "revoke 0 1": {api.Missing, 0}, "revoke 0 3": {api.Missing, 0}, "revoke 0 -1": {api.Missing, 0}, "read 0 A1:ZZ99": {api.Limit, 0},
		"login 0": {api.Done, 0}, "logout 2": {api.Done, 0}, "login -1": {api.Unknown, 0}, "audit 0": {api.Done, 0}, "audit 64": {api.Unknown, 0}, "formula 1 A2": {api.Done, 0}, "formula 1 B2": {api.Refused, 0}, "read 2 B1:B3": {api.Done, 0}, "read 0 A1:A1024": {api.Done, 0}, "read 0 A1:B513": {api.Limit, 0}, "read 7 0,1,1,1": {api.Unknown, 0}, "read 0 0,1,1,1": {api.Full, 0}, "set 1 1025,1,1025,1 \"=(\"": {api.Full, 0}, "clear 1 B1:C9": {api.Refused, 0}, "clear 1 A1:A9": {api.Done, 0}, "clear 0 2,2,1,1": {api.Full, 0}, "formula 0 1,0,1,0": {api.Full, 0},
		"rule 0 A1:B3 3 - 63": {api.Unknown, 0}, "rule 0 0,0,0,0 3 - -": {api.Full, 0}, "rule 1 A1 3 - -": {api.Unknown, 0}, "rule 0 B1:B9 - - -": {api.Done, 0}, "grant 0 B1:B3 31 0-2": {api.Done, 0}, "grant 1 A1 1 -": {api.Refused, 0}, "grant 0 1,1,1,1025 1 3": {api.Full, 0}, "revoke 0 0": {api.Done, 0}, "revoke 1 0": {api.Refused, 0}, "revoke 1 2": {api.Done, 0}, "revoke 0 2": {api.Done, 0}, "revoke 2 2": {api.Refused, 0}, "revoke 2 1": {api.Missing, 0}, "set 1 B1 \"=(\"": {api.Refused, 0}, "set 0 B1 \"=FOO(1)\"": {api.Syntax, 1}, "set 0 B1 \"=1+ABS()\"": {api.Syntax, 3}, "set 2 C7 \"=1/0\"": {api.Done, 0}, "set 0 B1 \"=A1:B2\"": {api.Syntax, 1},
	} {
		after, code, at := do(t, b, line)
		if code != want.code || at != want.at || after.Step != 1 || len(after.Releases) != 0 {
			t.Error("Apply", line, code, at, "want", want)
		}
	}
	for _, x := range []api.Op{{}, {Kind: 11}, {Kind: api.OpLogin, Index: 1, User: 99}, {Kind: api.OpSet, Rect: sample.Rect("A1:A2"), User: -1}, {Kind: api.OpSet, Input: strings.Repeat("=", 300)}, {Kind: api.OpGrant, Rect: sample.Rect("B1"), To: 8}} {
		after, code, at, e := book.Apply(b, x)
		b.Step++
		if code != api.Form || at != 0 || e != api.OK || !book.Equal(after, b) {
			t.Error("Apply", x, code, at, e)
		}
		b.Step--
	}
}

// P31.2: what changes.
func TestDone(t *testing.T) {
	b := sample.Granted()
	event := func(user int, kind uint8, r string, done bool, to uint64) api.Event {
		return api.Event{User: user, Kind: kind, Rect: sample.Rect(r), Done: done, To: to}
	}
	for line, change := range map[string]func(b *api.Book) api.Event{
		"set 1 B1 \"5\"":   func(b *api.Book) api.Event { return event(1, api.OpSet, "B1", false, 3) },
		"set 1 A1 \"\"":    func(b *api.Book) api.Event { *b = sample.With(*b, "A1 "); return event(1, api.OpSet, "A1", true, 3) },
		"set 0 B3 \"=A4\"": func(b *api.Book) api.Event { *b = sample.With(*b, "B3 =A4"); return event(0, api.OpSet, "B3", true, 1) },
		"set 2 A2 \" 007\"": func(b *api.Book) api.Event {
			*b = sample.With(*b, "A2  007")
			return event(2, api.OpSet, "A2", true, 5)
		},
		"set 2 A9 \"\"": func(b *api.Book) api.Event { return event(2, api.OpSet, "A9", true, 5) },
		"clear 0 A1:A3": func(b *api.Book) api.Event {
			*b = sample.With(*b, "A1 ;A2 ;A3 ")
			return event(0, api.OpClear, "A1:A3", true, 1)
		},
		"clear 0 A1:AMJ1024": func(b *api.Book) api.Event {
			b.Entries = nil
			return event(0, api.OpClear, "A1:AMJ1024", true, 1)
		},
		"clear 2 A1:B1": func(b *api.Book) api.Event { return event(2, api.OpClear, "A1:B1", false, 5) },
		"rule 0 B1:B9 0,1 2 1": func(b *api.Book) api.Event {
			b.Rules = append(b.Rules, sample.Rule("B1:B9", 3, 4, 2))
			return event(0, api.OpRule, "B1:B9", true, 1)
		},
		"rule 2 A1 - - -": func(b *api.Book) api.Event { return event(2, api.OpRule, "A1", false, 5) },
		"grant 0 C1 5 1,2": func(b *api.Book) api.Event {
			b.Grants = append(b.Grants, api.Grant{Rect: sample.Rect("C1"), Fns: 5, To: 6})
			return event(0, api.OpGrant, "C1", true, 1)
		},
		"revoke 0 0": func(b *api.Book) api.Event {
			b.Grants[0].Revoked = true
			return event(0, api.OpRevoke, "B1:B3", true, 1)
		},
		"revoke 2 0": func(b *api.Book) api.Event { return event(2, api.OpRevoke, "B1:B3", false, 5) },
	} {
		want := book.Copy(b)
		want.Log = []api.Event{change(&want)}
		want.Step = 1
		after, _, _ := do(t, b, line)
		if !book.Equal(after, want) {
			t.Error("Apply", line, after, "want", want)
		}
		if !book.Equal(b, sample.Granted()) {
			t.Fatal("Apply changes its argument", line)
		}
	}
	for _, line := range []string{"login 0", "logout 1", "read 0 A1", "formula 0 A1", "formula 1 B1", "audit 2", "set 1 A1 \"=(\"", "read 5 A1", "revoke 0 9", "clear 0 0,0,0,0"} {
		want := book.Copy(b)
		want.Step = 1
		if after, _, _ := do(t, b, line); !book.Equal(after, want) {
			t.Error("Apply", line, after, "want", want)
		}
	}
}

// P31.2: limits.
func TestLimits(t *testing.T) {
	b := sample.Book()
	b.Rules = append(b.Rules, slices.Repeat([]api.Rule{sample.Rule("Z9", 1, 1, 1)}, 62)...)
	b.Grants = slices.Repeat([]api.Grant{sample.Grant()}, 64)
	b.Step = api.MaxStep - 1
	for line, want := range map[string]uint8{"rule 0 A1 - - -": api.Limit, "rule 1 A1 - - -": api.Refused, "grant 0 A1 1 -": api.Limit, "grant 0 A1 1 3": api.Unknown, "revoke 0 63": api.Done} {
		after, code, _ := do(t, b, line)
		if code != want || len(after.Rules) != 64 || len(after.Grants) != 64 || after.Step != api.MaxStep {
			t.Error("Apply", line, code, want)
		}
		if e := book.Check(after); e != api.OK {
			t.Error("Check after", line, e)
		}
		if again, code, at, e := book.Apply(after, api.Op{Kind: api.OpLogin}); !book.Equal(again, api.Book{}) || code != 0 || at != 0 || e != api.ErrLong {
			t.Error("Apply at MaxStep:", code, at, e)
		}
	}
}

// may reports whether a user has a right on all addresses of a range of the area of random books.
func may(b api.Book, user int, r api.Rect, right func(r api.Rights) uint64) bool {
	for _, at := range sample.Cells() {
		rights, _ := acl.At(at, b.Rules...)
		if rect.Has(r, at) && right(rights)>>user&1 == 0 {
			return false
		}
	}
	return true
}

// codeOf returns the code of S6 for an operation, without Out.
func codeOf(b api.Book, x api.Op) (uint8, int) {
	target, _ := op.Target(x)
	beyond := func(set uint64) bool { return set>>b.Users != 0 }
	write := func(r api.Rights) uint64 { return r.Write }
	own := func(r api.Rights) uint64 { return r.Own }
	_, at, syntax := entry.Of(x.Input)
	switch {
	case op.Check(x) != api.OK:
		return api.Form, 0
	case x.User < 0 || x.User >= b.Users:
		return api.Unknown, 0
	case x.Kind >= api.OpSet && x.Kind <= api.OpGrant && rect.Check(target) != api.OK:
		return api.Full, 0
	case x.Kind == api.OpRule && beyond(x.Rights.Read|x.Rights.Write|x.Rights.Own), x.Kind == api.OpGrant && beyond(x.To):
		return api.Unknown, 0
	case x.Kind == api.OpRevoke && (x.Index < 0 || x.Index >= len(b.Grants) || b.Grants[x.Index].Revoked):
		return api.Missing, 0
	case (x.Kind == api.OpSet || x.Kind == api.OpClear) && !may(b, x.User, target, write), x.Kind == api.OpFormula && !may(b, x.User, target, func(r api.Rights) uint64 { return r.Read }), (x.Kind == api.OpRule || x.Kind == api.OpGrant) && !may(b, x.User, target, own):
		return api.Refused, 0
	case x.Kind == api.OpRevoke && b.Grants[x.Index].By != x.User && !may(b, x.User, b.Grants[x.Index].Rect, own):
		return api.Refused, 0
	case x.Kind == api.OpSet && syntax != api.OK:
		return api.Syntax, at
	}
	return api.Done, 0
}

// P31.2, P31.4 to P31.7: sequences of operations on random books.
func TestRandom(t *testing.T) {
	r := rand.New(rand.NewSource(1))
	seen := map[uint8]int{}
	for range 120 {
		b := sample.Random(r.Intn)
		for range 20 {
			x := sample.Op(r.Intn, b.Users)
			after, code, at, e := book.Apply(b, x)
			want, fault := codeOf(b, x)
			if code != want || at != fault || e != api.OK {
				t.Fatal("Apply", b, x, code, at, e, "want", want, fault)
			}
			seen[code]++
			if e := book.Check(after); e != api.OK {
				t.Fatal("Check after", x, e)
			}
			checkChange(t, b, after, x, code)
			b = after
		}
	}
	for _, code := range []uint8{api.Done, api.Form, api.Unknown, api.Full, api.Refused, api.Syntax, api.Missing} {
		if seen[code] == 0 {
			t.Error("no reply with the code", code)
		}
	}
}

// checkChange checks what differs between two books, one of them after an operation.
func checkChange(t *testing.T, b, after api.Book, x api.Op, code uint8) {
	same := slices.Equal(b.Entries, after.Entries) && slices.Equal(b.Rules, after.Rules) && slices.Equal(b.Grants, after.Grants)
	logged := op.Mutates(x) && (code == api.Done || code == api.Refused)
	if code != api.Done && !same || !audit.Grows(b.Log, after.Log) || logged != (len(after.Log) == len(b.Log)+1) || after.Step != b.Step+1 || len(after.Releases) != len(b.Releases) {
		t.Fatal("what changed:", x, code, b, after)
	}
	for _, at := range sample.Cells() {
		before, _ := book.Input(b, at)
		now, _ := book.Input(after, at)
		inside := rect.Has(x.Rect, at)
		want := before
		if code == api.Done && inside && (x.Kind == api.OpSet || x.Kind == api.OpClear) {
			want = x.Input
		}
		if now != want {
			t.Fatal("the input of", at, now, want, x)
		}
		ra, _ := acl.At(at, b.Rules...)
		rb, _ := acl.At(at, after.Rules...)
		if ra != rb && (x.Kind != api.OpRule || !inside) {
			t.Fatal("the rights of", at, x)
		}
	}
}
