package script

import (
	"louvre/api"
)

// maxSize is how many bytes a number has at most.
const maxSize = 8

// reader is the bytes that are left. After a fault everything that it reads is zero.
type reader struct {
	rest  string
	fault bool
}

// take reads n bytes.
func (r *reader) take(n uint64) string {
	if r.fault || n > uint64(len(r.rest)) {
		r.fault = true
		return ""
	}
	s := r.rest[:n]
	r.rest = r.rest[n:]
	return s
}

// size reads how many bytes the next number has.
func (r *reader) size() uint64 {
	s := r.take(1)
	if r.fault || s[0] > maxSize {
		r.fault = true
		return 0
	}
	return uint64(s[0])
}

// number reads a number.
func (r *reader) number() uint64 {
	n := uint64(0)
	for _, c := range []byte(r.take(r.size())) {
		n = n<<8 | uint64(c)
	}
	return n
}

// int reads an int.
func (r *reader) int() int {
	return int(r.number())
}

// small reads a number of one byte. Of a greater one something else is left, so that it is written in another way.
func (r *reader) small() uint8 {
	return uint8(r.number())
}

// text reads a string.
func (r *reader) text() string {
	return r.take(r.number())
}

// ref reads an address.
func (r *reader) ref() api.Ref {
	return api.Ref{Col: r.int(), Row: r.int()}
}

// rect reads a range.
func (r *reader) rect() api.Rect {
	return api.Rect{C1: r.int(), R1: r.int(), C2: r.int(), R2: r.int()}
}

// rights reads rights.
func (r *reader) rights() api.Rights {
	return api.Rights{Read: r.number(), Write: r.number(), Own: r.number()}
}

// list reads a list, of which element reads the elements. Each of them has at least one byte, so that a length that is too great ends with a fault.
func list[T any](r *reader, element func() T) []T {
	var l []T
	for n := r.number(); n > 0 && !r.fault; n-- {
		l = append(l, element())
	}
	return l
}

// book reads a book.
func (r *reader) book() api.Book {
	return api.Book{
		Users:    r.int(),
		Entries:  list(r, func() api.Entry { return api.Entry{At: r.ref(), Input: r.text()} }),
		Rules:    list(r, func() api.Rule { return api.Rule{Rect: r.rect(), Rights: r.rights()} }),
		Grants:   list(r, r.grant),
		Log:      list(r, r.event),
		Releases: list(r, r.release),
		Step:     r.int(),
	}
}

// grant reads a grant.
func (r *reader) grant() api.Grant {
	return api.Grant{Rect: r.rect(), Fns: r.small(), To: r.number(), By: r.int(), Revoked: r.number() == 1}
}

// event reads an entry of the log of operations.
func (r *reader) event() api.Event {
	return api.Event{Step: r.int(), User: r.int(), Kind: r.small(), Rect: r.rect(), Done: r.number() == 1, To: r.number()}
}

// release reads an entry of the log of releases.
func (r *reader) release() api.Release {
	return api.Release{Step: r.int(), Call: api.Call{At: r.ref(), Node: r.int()}, Fn: r.small(), Rect: r.rect(), Grant: r.int(), To: r.number()}
}

// op reads an operation.
func (r *reader) op() api.Op {
	x := api.Op{Kind: r.small()}
	mask := r.number()
	fields := []struct {
		bit  uint64
		read func()
	}{
		{hasUser, func() { x.User = r.int() }},
		{hasRect, func() { x.Rect = r.rect() }},
		{hasInput, func() { x.Input = r.text() }},
		{hasRights, func() { x.Rights = r.rights() }},
		{hasFns, func() { x.Fns = r.small() }},
		{hasTo, func() { x.To = r.number() }},
		{hasIndex, func() { x.Index = r.int() }},
	}
	for _, f := range fields {
		if mask&f.bit != 0 {
			f.read()
		}
	}
	return x
}
