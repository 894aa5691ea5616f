package sample

import (
	"strings"

	"louvre/api"
	"louvre/dec"
	"louvre/val"
)

// Value returns the value that is written as it is shown, a text that looks like another value in quotes, and blank for a blank.
func Value(s string) api.Value {
	if n, e := dec.Parse(s); e == api.OK {
		return val.Make(n)
	}
	if code, e := val.Code(s); e == api.OK {
		return val.Fail(code)
	}
	switch s {
	case "TRUE", "FALSE":
		return val.Truth(s == "TRUE")
	case "blank":
		return api.Value{}
	}
	return api.Value{Kind: api.Text, Text: strings.Trim(s, "\"'")}
}

// Values returns the values that s says, with blanks between them.
func Values(s string) []api.Value {
	var l []api.Value
	for w := range strings.FieldsSeq(s) {
		l = append(l, Value(w))
	}
	return l
}
