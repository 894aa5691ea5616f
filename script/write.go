package script

import (
	"math/bits"

	"louvre/api"
)

// The bits of the mask of an operation, for the fields that are not zero.
const (
	hasUser = 1 << iota
	hasRect
	hasInput
	hasRights
	hasFns
	hasTo
	hasIndex
)

// writer is the bytes that were written.
type writer struct {
	bytes []byte
}

// write writes a number: how many bytes it has, and these.
func write[T int | uint8 | uint64](w *writer, n T) {
	m := uint64(n)
	size := (bits.Len64(m) + 7) / 8
	w.bytes = append(w.bytes, byte(size))
	for i := range size {
		w.bytes = append(w.bytes, byte(m>>(8*(size-1-i))))
	}
}

// truth writes a bool.
func (w *writer) truth(b bool) {
	if b {
		write(w, 1)
	} else {
		write(w, 0)
	}
}

// text writes a string.
func (w *writer) text(s string) {
	write(w, len(s))
	w.bytes = append(w.bytes, s...)
}

// ref writes an address.
func (w *writer) ref(at api.Ref) {
	write(w, at.Col)
	write(w, at.Row)
}

// rect writes a range.
func (w *writer) rect(r api.Rect) {
	write(w, r.C1)
	write(w, r.R1)
	write(w, r.C2)
	write(w, r.R2)
}

// rights writes rights.
func (w *writer) rights(r api.Rights) {
	write(w, r.Read)
	write(w, r.Write)
	write(w, r.Own)
}

// book writes a book.
func (w *writer) book(b api.Book) {
	write(w, b.Users)
	write(w, len(b.Entries))
	for _, x := range b.Entries {
		w.ref(x.At)
		w.text(x.Input)
	}
	write(w, len(b.Rules))
	for _, x := range b.Rules {
		w.rect(x.Rect)
		w.rights(x.Rights)
	}
	write(w, len(b.Grants))
	for _, x := range b.Grants {
		w.rect(x.Rect)
		write(w, x.Fns)
		write(w, x.To)
		write(w, x.By)
		w.truth(x.Revoked)
	}
	w.logs(b)
	write(w, b.Step)
}

// logs writes both logs of a book.
func (w *writer) logs(b api.Book) {
	write(w, len(b.Log))
	for _, x := range b.Log {
		write(w, x.Step)
		write(w, x.User)
		write(w, x.Kind)
		w.rect(x.Rect)
		w.truth(x.Done)
		write(w, x.To)
	}
	write(w, len(b.Releases))
	for _, x := range b.Releases {
		write(w, x.Step)
		w.ref(x.Call.At)
		write(w, x.Call.Node)
		write(w, x.Fn)
		w.rect(x.Rect)
		write(w, x.Grant)
		write(w, x.To)
	}
}

// op writes an operation.
func (w *writer) op(x api.Op) {
	fields := []struct {
		bit   int
		there bool
		write func()
	}{
		{hasUser, x.User != 0, func() { write(w, x.User) }},
		{hasRect, x.Rect != api.Rect{}, func() { w.rect(x.Rect) }},
		{hasInput, x.Input != "", func() { w.text(x.Input) }},
		{hasRights, x.Rights != api.Rights{}, func() { w.rights(x.Rights) }},
		{hasFns, x.Fns != 0, func() { write(w, x.Fns) }},
		{hasTo, x.To != 0, func() { write(w, x.To) }},
		{hasIndex, x.Index != 0, func() { write(w, x.Index) }},
	}
	mask := 0
	for _, f := range fields {
		if f.there {
			mask |= f.bit
		}
	}
	write(w, x.Kind)
	write(w, mask)
	for _, f := range fields {
		if f.there {
			f.write()
		}
	}
}
