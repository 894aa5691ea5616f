package book

import (
	"slices"

	"louvre/acl"
	"louvre/api"
	"louvre/audit"
	"louvre/entry"
	"louvre/group"
	"louvre/op"
	"louvre/rect"
	"louvre/region"
)

// Apply returns the book after an operation of a user who is logged in, and the code of the reply.
func Apply(b api.Book, x api.Op) (after api.Book, code uint8, at int, e api.Errno) {
	if e := Check(b); e != api.OK {
		return api.Book{}, 0, 0, e
	}
	if b.Step == api.MaxStep {
		return api.Book{}, 0, 0, api.ErrLong
	}
	code, at = judge(b, x)
	after = Copy(b)
	if code == api.Done {
		perform(&after, x)
	}
	if op.Mutates(x) && (code == api.Done || code == api.Refused) {
		event, _ := audit.Event(b.Step, x, code == api.Done, b.Rules, b.Grants)
		after.Log = append(after.Log, event)
	}
	after.Step++
	return after, code, at, api.OK
}

// judge returns the code of the reply to an operation, and the byte at fault in its input.
func judge(b api.Book, x api.Op) (code uint8, at int) {
	all, _ := group.All(b.Users)
	_, fault, syntax := entry.Of(x.Input)
	tests := []struct {
		code    uint8
		applies func() bool
	}{
		{api.Form, func() bool { return op.Check(x) != api.OK }},
		{api.Unknown, func() bool { return !group.Has(all, x.User) }},
		{api.Full, func() bool { r, ok := op.Target(x); return ok && rect.Check(r) != api.OK }},
		{api.Unknown, func() bool { return (x.Rights.Read|x.Rights.Write|x.Rights.Own|x.To)&^all != 0 }},
		{api.Missing, func() bool { return x.Kind == api.OpRevoke && !revocable(b, x.Index) }},
		{api.Refused, func() bool { return !permitted(b, x) }},
		{api.Syntax, func() bool { return syntax != api.OK }},
		{api.Limit, func() bool { return limited(b, x) }},
	}
	for _, t := range tests {
		if !t.applies() {
			continue
		}
		if t.code == api.Syntax {
			at = fault
		}
		return t.code, at
	}
	return api.Done, 0
}

// revocable reports whether there is a grant that is not revoked.
func revocable(b api.Book, i int) bool {
	return 0 <= i && i < len(b.Grants) && !b.Grants[i].Revoked
}

// permitted reports whether a user has the right that an operation needs.
func permitted(b api.Book, x api.Op) bool {
	switch x.Kind {
	case api.OpSet, api.OpClear:
		write, _, _ := region.May(x.User, x.Rect, b.Rules...)
		return write
	case api.OpFormula:
		rights, _ := acl.At(api.Ref{Col: x.Rect.C1, Row: x.Rect.R1}, b.Rules...)
		return group.Has(rights.Read, x.User)
	case api.OpRule, api.OpGrant:
		return owns(b, x.User, x.Rect)
	case api.OpRevoke:
		g := b.Grants[x.Index]
		return g.By == x.User || owns(b, x.User, g.Rect)
	}
	return true
}

// owns reports whether a user owns a range.
func owns(b api.Book, user int, r api.Rect) bool {
	_, own, _ := region.May(user, r, b.Rules...)
	return own
}

// limited reports whether an operation needs more than there may be.
func limited(b api.Book, x api.Op) bool {
	switch x.Kind {
	case api.OpRead:
		area, _ := rect.Area(x.Rect)
		return area > api.MaxRead
	case api.OpRule:
		return len(b.Rules) >= api.MaxRules
	case api.OpGrant:
		return len(b.Grants) >= api.MaxGrants
	}
	return false
}

// perform changes a book as an operation says that is done.
func perform(b *api.Book, x api.Op) {
	switch x.Kind {
	case api.OpSet:
		b.Entries = set(b.Entries, api.Entry{At: api.Ref{Col: x.Rect.C1, Row: x.Rect.R1}, Input: x.Input})
	case api.OpClear:
		b.Entries = slices.DeleteFunc(b.Entries, func(y api.Entry) bool { return rect.Has(x.Rect, y.At) })
	case api.OpRule:
		b.Rules = append(b.Rules, api.Rule{Rect: x.Rect, Rights: x.Rights})
	case api.OpGrant:
		b.Grants = append(b.Grants, api.Grant{Rect: x.Rect, Fns: x.Fns, To: x.To, By: x.User})
	case api.OpRevoke:
		b.Grants[x.Index].Revoked = true
	}
}

// set returns the entries with an entry in place of the one of its address; without one if its input is empty.
func set(l []api.Entry, x api.Entry) []api.Entry {
	i, found := find(l, x.At)
	rest := l[i:]
	if found {
		rest = l[i+1:]
	}
	// Without capacity for more, appending copies the entries before, and leaves the rest as it is.
	before := l[:i:i]
	if x.Input != "" {
		before = append(before, x)
	}
	return append(before, rest...)
}
