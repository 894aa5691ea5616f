package lines

import (
	"math"
	"strconv"
	"strings"

	"louvre/api"
)

// codes are the words of the codes of replies.
var codes = [...]string{api.Done: "done", api.Form: "form", api.Unknown: "unknown", api.Out: "out", api.Full: "full", api.Refused: "refused", api.Syntax: "syntax", api.Limit: "limit", api.Missing: "missing"}

// failures are the names of the error values.
var failures = [...]string{api.Div: "#DIV/0!", api.Val: "#VALUE!", api.Num: "#NUM!", api.NA: "#N/A", api.Bad: "#REF!", api.Cycle: "#CYCLE!", api.Denied: "#DENIED"}

// Reply returns the line of a reply.
func Reply(r api.Reply) (string, api.Errno) {
	text, ok := literal(r.Text)
	if r.Code > api.Missing || r.At < 0 || r.Count < 0 || !ok {
		return "", api.ErrArg
	}
	words := []string{codes[r.Code]}
	words = append(words, counted("at", r.At)...)
	words = append(words, counted("count", r.Count)...)
	if r.Text != "" {
		words = append(words, "text", text)
	}
	words = append(words, counted("grid", len(r.Grid))...)
	for _, v := range r.Grid {
		w, ok := value(v)
		if !ok {
			return "", api.ErrArg
		}
		words = append(words, w)
	}
	words = append(words, counted("events", len(r.Events))...)
	for _, x := range r.Events {
		words = append(words, eventLine(x))
	}
	words = append(words, counted("releases", len(r.Releases))...)
	for _, x := range r.Releases {
		words = append(words, shownLine(x))
	}
	return join(words...), api.OK
}

// counted returns a word and a number that is not 0.
func counted(word string, n int) []string {
	if n == 0 {
		return nil
	}
	return []string{word, strconv.Itoa(n)}
}

// value returns the word for a value; false: no user sees this value.
func value(v api.Value) (w string, ok bool) {
	switch v.Kind {
	case api.Blank:
		return "-", v == api.Value{}
	case api.Text:
		w, ok = literal(v.Text)
		return w, ok && v.Num == 0
	case api.Number:
		if v.Num == math.MinInt64 {
			return "", false
		}
		return number(v.Num), v.Text == ""
	case api.Bool:
		return strings.ToUpper(strconv.FormatBool(v.Num == 1)), (v.Num == 0 || v.Num == 1) && v.Text == ""
	case api.Error:
		if v.Num < api.Div || v.Num > api.Denied {
			return "", false
		}
		return failures[v.Num], v.Text == ""
	}
	return "", false
}

// number returns a number with its decimal places, but without zeros at the end.
func number(n int64) string {
	sign := ""
	if n < 0 {
		sign, n = "-", -n
	}
	whole, part := n/api.Unit, n%api.Unit
	s := sign + strconv.FormatInt(whole, 10)
	if part != 0 {
		// The unit before the places keeps the zeros at their beginning.
		s += "." + strings.TrimRight(strconv.FormatInt(api.Unit+part, 10)[1:], "0")
	}
	return s
}
