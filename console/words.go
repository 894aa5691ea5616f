package console

import (
	"strconv"
	"strings"

	"louvre/api"
	"louvre/lines"
)

// A reply with only one value, or only one release, has a line that shows how package lines writes a value, an address and a set.
const (
	beforeValue = "done grid 1 "
	addressWord = 5
	setWord     = 10
)

// join returns words with a blank between them.
func join(words ...string) string {
	return strings.Join(words, " ")
}

// choice returns one of two words.
func choice(first bool, one, other string) string {
	if first {
		return one
	}
	return other
}

// released returns the words of a reply with one release.
func released(x api.Release) []string {
	line, _ := lines.Reply(api.Reply{Releases: []api.Release{x}})
	return strings.Split(line, " ")
}

// address returns the text of an address.
func address(at api.Ref) string {
	return released(api.Release{Call: api.Call{At: at}})[addressWord]
}

// set returns the text of a set.
func set(users uint64) string {
	return released(api.Release{To: users})[setWord]
}

// value returns a value as users see it: a text without quotes, and nothing for a blank.
func value(v api.Value) string {
	if v.Kind == api.Blank || v.Kind == api.Text {
		return v.Text
	}
	line, _ := lines.Reply(api.Reply{Grid: []api.Value{v}})
	return strings.TrimPrefix(line, beforeValue)
}

// reason returns the text of a reason.
func reason(r api.Reason) string {
	words := []string{choice(r.Sees, "seen", "hidden")}
	for _, at := range r.Path {
		words = append(words, address(at))
	}
	for _, x := range r.Cuts {
		words = append(words, address(x.At)+"/"+strconv.Itoa(x.Node))
	}
	return join(words...)
}
