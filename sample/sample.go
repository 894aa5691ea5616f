// Package sample has books, and what the tests of several packages say about them. The program itself does not use it.
package sample

import (
	"slices"
	"strings"

	"louvre/addr"
	"louvre/api"
	"louvre/deps"
	"louvre/rect"
)

// Whole is the range of the whole sheet.
func Whole() api.Rect {
	return api.Rect{C1: 1, R1: 1, C2: api.MaxCol, R2: api.MaxRow}
}

// Rect returns the range that s says; that of no address if it says none.
func Rect(s string) api.Rect {
	r, _ := rect.Parse(s)
	return r
}

// Ref returns the address that s says.
func Ref(s string) api.Ref {
	r, _ := addr.Parse(s)
	return r
}

// Refs returns the addresses that s says, with blanks between them.
func Refs(s string) []api.Ref {
	var l []api.Ref
	for w := range strings.FieldsSeq(s) {
		l = append(l, Ref(w))
	}
	return l
}

// Text returns addresses as words.
func Text(l ...api.Ref) string {
	var words []string
	for _, at := range l {
		s, _ := addr.Format(at)
		words = append(words, s)
	}
	return strings.Join(words, " ")
}

// Entries returns the entries that s says, in their order: A1 5;A2 =A1
func Entries(s string) []api.Entry {
	var l []api.Entry
	for w := range strings.SplitSeq(s, ";") {
		at, input, _ := strings.Cut(w, " ")
		l = append(l, api.Entry{At: Ref(at), Input: input})
	}
	slices.SortFunc(l, func(a, b api.Entry) int { return order(a.At, b.At) })
	return l
}

// order compares addresses row by row.
func order(a, b api.Ref) int {
	switch {
	case addr.Less(a, b):
		return -1
	case a == b:
		return 0
	}
	return 1
}

// Rule returns the rule for a range with these rights.
func Rule(s string, read, write, own uint64) api.Rule {
	return api.Rule{Rect: Rect(s), Rights: api.Rights{Read: read, Write: write, Own: own}}
}

// Book is the book of the examples of DOC.md.
func Book() api.Book {
	return api.Book{
		Users:   3,
		Entries: Entries("A1 5;B1 10;B2 20;A2 =A1+B1;A3 =DSUM(B1:B3);A4 =IFERROR(A3,0)+1"),
		Rules:   []api.Rule{Rule("A1:AMJ1024", 7, 7, 1), Rule("B1:B3", 1, 1, 1)},
	}
}

// Grant is the grant of the third example of DOC.md.
func Grant() api.Grant {
	return api.Grant{Rect: Rect("B1:B3"), Fns: 1, To: 2}
}

// Granted is the book of the examples with the grant of the third one.
func Granted() api.Book {
	b := Book()
	b.Grants = []api.Grant{Grant()}
	return b
}

// With returns a book with other entries in place of its own ones at some addresses; an empty input removes one.
func With(b api.Book, s string) api.Book {
	inputs := map[api.Ref]string{}
	for _, x := range append(slices.Clone(b.Entries), Entries(s)...) {
		inputs[x.At] = x.Input
	}
	b.Entries = listed(inputs)
	return b
}

// listed returns the entries of inputs that are not empty, in their order.
func listed(inputs map[api.Ref]string) []api.Entry {
	var l []api.Entry
	for at, input := range inputs {
		if input != "" {
			l = append(l, api.Entry{At: at, Input: input})
		}
	}
	slices.SortFunc(l, func(a, b api.Entry) int { return order(a.At, b.At) })
	return l
}

// Graph returns the graph of the formulas that s says, in any order: A1 =B1;A2 =A1
func Graph(s string) *deps.Graph {
	g, _ := deps.New()
	for w := range strings.SplitSeq(s, ";") {
		at, input, _ := strings.Cut(w, " ")
		g.Set(Ref(at), input)
	}
	return g
}
