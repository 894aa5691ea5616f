package lines

import (
	"strconv"
	"strings"

	"louvre/api"
	"louvre/group"
	"louvre/op"
	"louvre/rect"
)

// Operations that any user may try have lines that show how package op writes a range, and a literal.
const (
	beforeRange   = "read 0 "
	beforeLiteral = "set 0 0,0,0,0 "
)

// hex is the hexadecimal digits.
const hex = "0123456789abcdef"

// join returns words with a blank between them.
func join(words ...string) string {
	return strings.Join(words, " ")
}

// area returns the text of a range.
func area(r api.Rect) string {
	s, _ := op.Format(api.Op{Kind: api.OpRead, Rect: r})
	return strings.TrimPrefix(s, beforeRange)
}

// literal returns the literal of a text; false: s is no text.
func literal(s string) (string, bool) {
	line, e := op.Format(api.Op{Kind: api.OpSet, Input: s})
	return strings.TrimPrefix(line, beforeLiteral), e == api.OK
}

// decimal returns an unsigned number in decimal digits.
func decimal(n uint64) string {
	return strconv.FormatUint(n, 10)
}

// bookLine returns the line of a book.
func bookLine(b api.Book) string {
	return join("book", strconv.Itoa(b.Users), strconv.Itoa(b.Step))
}

// cellLine returns the line of an entry.
func cellLine(x api.Entry) string {
	input, _ := literal(x.Input)
	return join("cell", area(rect.One(x.At)), input)
}

// rightLine returns the line of a rule.
func rightLine(x api.Rule) string {
	return join("right", area(x.Rect), group.Format(x.Rights.Read), group.Format(x.Rights.Write), group.Format(x.Rights.Own))
}

// releaseLine returns the line of a grant.
func releaseLine(x api.Grant) string {
	state := "live"
	if x.Revoked {
		state = "revoked"
	}
	return join("release", area(x.Rect), strconv.Itoa(int(x.Fns)), group.Format(x.To), strconv.Itoa(x.By), state)
}

// eventLine returns the line of an entry of the log of operations.
func eventLine(x api.Event) string {
	done := "no"
	if x.Done {
		done = "yes"
	}
	return join("event", strconv.Itoa(x.Step), strconv.Itoa(x.User), strconv.Itoa(int(x.Kind)), area(x.Rect), done, group.Format(x.To))
}

// shownLine returns the line of an entry of the log of releases.
func shownLine(x api.Release) string {
	return join("shown", strconv.Itoa(x.Step), area(rect.One(x.Call.At)), strconv.Itoa(x.Call.Node), strconv.Itoa(int(x.Fn)), area(x.Rect), strconv.Itoa(x.Grant), group.Format(x.To))
}

// opLine returns the line of an operation.
func opLine(x api.Op) string {
	line, e := op.Format(x)
	if e != api.OK {
		return rawLine(x)
	}
	return line
}

// rawLine returns the line of an operation that is not well formed.
func rawLine(x api.Op) string {
	words := []string{"raw"}
	for _, n := range []int{int(x.Kind), x.User, x.Rect.C1, x.Rect.R1, x.Rect.C2, x.Rect.R2} {
		words = append(words, strconv.Itoa(n))
	}
	words = append(words, bytes(x.Input))
	for _, n := range []uint64{x.Rights.Read, x.Rights.Write, x.Rights.Own, uint64(x.Fns), x.To} {
		words = append(words, decimal(n))
	}
	return join(append(words, strconv.Itoa(x.Index))...)
}

// bytes returns the bytes of a string in hexadecimal digits.
func bytes(s string) string {
	if s == "" {
		return "-"
	}
	var b strings.Builder
	for i := range len(s) {
		b.WriteByte(hex[s[i]>>4])
		b.WriteByte(hex[s[i]&15])
	}
	return b.String()
}
