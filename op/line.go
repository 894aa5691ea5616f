package op

import (
	"strconv"
	"strings"

	"louvre/api"
	"louvre/glyph"
	"louvre/group"
	"louvre/rect"
)

// words are the first words of the lines, by the kinds of operations.
var words = [...]string{
	api.OpLogin: "login", api.OpLogout: "logout", api.OpSet: "set", api.OpClear: "clear", api.OpRead: "read",
	api.OpFormula: "formula", api.OpRule: "rule", api.OpGrant: "grant", api.OpRevoke: "revoke", api.OpAudit: "audit",
}

// fault ends the reading of something that is no line.
type fault struct{}

// Format returns the line of an operation.
func Format(x api.Op) (string, api.Errno) {
	if e := Check(x); e != api.OK {
		return "", e
	}
	l := []string{words[x.Kind], strconv.Itoa(x.User)}
	if r, ok := Target(x); ok {
		l = append(l, area(r))
	}
	switch x.Kind {
	case api.OpSet:
		s, _ := glyph.Quote(x.Input)
		l = append(l, s)
	case api.OpRule:
		l = append(l, group.Format(x.Rights.Read), group.Format(x.Rights.Write), group.Format(x.Rights.Own))
	case api.OpGrant:
		l = append(l, strconv.Itoa(int(x.Fns)), group.Format(x.To))
	case api.OpRevoke:
		l = append(l, strconv.Itoa(x.Index))
	}
	return strings.Join(l, " "), api.OK
}

// Parse returns the operation of a line.
func Parse(s string) (x api.Op, e api.Errno) {
	defer func() {
		if recover() != nil {
			x, e = api.Op{}, api.ErrForm
		}
	}()
	r := &reader{s}
	x = r.operation()
	// What was read may have been written in another way than a line is.
	if line, e := Format(x); e != api.OK || line != s {
		panic(fault{})
	}
	return x, api.OK
}

// area returns the text of a range.
func area(r api.Rect) string {
	s, e := rect.Format(r)
	if e != api.OK {
		var l []string
		for _, n := range []int{r.C1, r.R1, r.C2, r.R2} {
			l = append(l, strconv.Itoa(n))
		}
		s = strings.Join(l, ",")
	}
	return s
}

// acceptable reports whether an operation may have an input.
func acceptable(input string) bool {
	return glyph.Check(input) == api.OK && len(input) <= api.MaxInput
}

// reader is what is left of a line. What it reads may also be written in other ways than a line has it.
type reader struct {
	rest string
}

// operation reads an operation.
func (r *reader) operation() api.Op {
	x := api.Op{Kind: r.kind(), User: number(r.word())}
	if _, ok := Target(x); ok {
		x.Rect = ranged(r.word())
	}
	switch x.Kind {
	case api.OpSet:
		x.Input = literal(r.rest)
	case api.OpRule:
		x.Rights = api.Rights{Read: set(r.word()), Write: set(r.word()), Own: set(r.word())}
	case api.OpGrant:
		x.Fns, x.To = uint8(number(r.word())), set(r.word())
	case api.OpRevoke:
		x.Index = number(r.word())
	}
	return x
}

// word reads the bytes before the next blank.
func (r *reader) word() string {
	w, rest, _ := strings.Cut(r.rest, " ")
	r.rest = rest
	return w
}

// kind reads the first word.
func (r *reader) kind() uint8 {
	w := r.word()
	for kind := api.OpLogin; kind <= api.Ops; kind++ {
		if words[kind] == w {
			return kind
		}
	}
	panic(fault{})
}

// number returns the number that a word says.
func number(w string) int {
	n, err := strconv.Atoi(w)
	if err != nil {
		panic(fault{})
	}
	return n
}

// set returns the set that a word says.
func set(w string) uint64 {
	s, e := group.Parse(w)
	if e != api.OK {
		panic(fault{})
	}
	return s
}

// literal returns the input of which s is the literal.
func literal(s string) string {
	input, e := glyph.Unquote(s)
	if e != api.OK {
		panic(fault{})
	}
	return input
}

// ranged returns the range that a word says.
func ranged(w string) api.Rect {
	r, e := rect.Parse(w)
	if e == api.OK {
		return r
	}
	l := strings.Split(w, ",")
	if len(l) != 4 {
		panic(fault{})
	}
	return api.Rect{C1: number(l[0]), R1: number(l[1]), C2: number(l[2]), R2: number(l[3])}
}
