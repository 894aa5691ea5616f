package lines

import (
	"math"
	"strconv"
	"strings"

	"louvre/api"
	"louvre/group"
	"louvre/op"
)

// fields is the words of a line that are left. After a fault, what it reads has no meaning.
type fields struct {
	rest  string
	more  bool // there is another word, which may be empty
	fault bool
}

// end reports whether all words were read without a fault.
func (f *fields) end() bool {
	return !f.fault && !f.more
}

// word reads a word.
func (f *fields) word() string {
	f.demand(f.more)
	w, rest, more := strings.Cut(f.rest, " ")
	f.rest, f.more = rest, more
	return w
}

// demand says what must be so.
func (f *fields) demand(ok bool) {
	f.fault = f.fault || !ok
}

// number reads an int.
func (f *fields) number() int {
	w := f.word()
	n, err := strconv.Atoi(w)
	f.demand(err == nil && strconv.Itoa(n) == w)
	return n
}

// unsigned reads a number without a sign.
func (f *fields) unsigned() uint64 {
	w := f.word()
	n, err := strconv.ParseUint(w, 10, 64)
	f.demand(err == nil && decimal(n) == w)
	return n
}

// small reads a number of one byte.
func (f *fields) small() uint8 {
	n := f.unsigned()
	f.demand(n <= math.MaxUint8)
	return uint8(n)
}

// set reads a set.
func (f *fields) set() uint64 {
	set, e := group.Parse(f.word())
	f.demand(e == api.OK)
	return set
}

// area reads the text of a range.
func (f *fields) area() api.Rect {
	x, e := op.Parse(beforeRange + f.word())
	f.demand(e == api.OK)
	return x.Rect
}

// ref reads the text of an address.
func (f *fields) ref() api.Ref {
	r := f.area()
	f.demand(r.C1 == r.C2 && r.R1 == r.R2)
	return api.Ref{Col: r.C1, Row: r.R1}
}

// literal reads a literal, which is all that is left.
func (f *fields) literal() string {
	f.demand(f.more)
	x, e := op.Parse(beforeLiteral + f.rest)
	f.demand(e == api.OK)
	f.more = false
	return x.Input
}

// either reads one of two words, and reports whether it is the first one.
func (f *fields) either(yes, no string) bool {
	w := f.word()
	f.demand(w == yes || w == no)
	return w == yes
}

// bytes reads the bytes of a string.
func (f *fields) bytes() string {
	w := f.word()
	if w == "-" {
		return ""
	}
	f.demand(w != "" && len(w)%2 == 0)
	var l []byte
	for i := 0; i+1 < len(w); i += 2 {
		high, low := strings.IndexByte(hex, w[i]), strings.IndexByte(hex, w[i+1])
		f.demand(high >= 0 && low >= 0)
		l = append(l, byte(high<<4|low))
	}
	return string(l)
}
