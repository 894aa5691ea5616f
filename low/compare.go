package low

import (
	"slices"

	"louvre/api"
	"louvre/session"
)

// comparison is two sessions, and what was found out about them so far.
type comparison struct {
	user     int
	sessions [2]*session.Session
	run      api.Run
}

// Compare compares the results of operations on two books that look the same to a user.
func Compare(user int, a, b api.Book, l, m []api.Op) (api.Run, api.Errno) {
	if e := check(user, a, b); e != api.OK {
		return api.Run{}, e
	}
	if len(l) != len(m) {
		return api.Run{}, api.ErrArg
	}
	if len(l) > api.MaxOps || a.Step > api.MaxStep/2 {
		return api.Run{}, api.ErrLong
	}
	if !alike(user, a, b) {
		return api.Run{}, api.ErrState
	}
	c := &comparison{user: user, run: api.Run{Same: true, Fair: true}}
	for i, x := range []api.Book{a, b} {
		s, e := session.New(x)
		if e != api.OK {
			return api.Run{}, e
		}
		c.sessions[i] = s
	}
	c.compareValues()
	for i := 0; i < len(l) && c.run.Fair && c.run.Same; i++ {
		c.step(l[i], m[i])
	}
	return c.run, api.OK
}

// step performs an operation on both sessions and compares what they deliver.
func (c *comparison) step(x, y api.Op) {
	if !c.fair(x, y) {
		c.run.Fair = false
		return
	}
	one, other := c.sessions[0].Do(x), c.sessions[1].Do(y)
	c.run.Steps++
	if !sameInputs(c.user, c.sessions[0].Book(), c.sessions[1].Book()) {
		c.run.Fair = false
		return
	}
	if c.compareValues(); !c.run.Fair {
		return
	}
	delivered := func(s api.Step) (reply api.Reply, count int) {
		if s.Op.User == c.user {
			reply = s.Reply
		}
		return reply, s.Counts[c.user]
	}
	first, n := delivered(one)
	second, k := delivered(other)
	c.run.Same = n == k && equal(first, second)
}

// fair reports whether two operations are the same, or differ only in inputs that are hidden from the user and accepted alike.
func (c *comparison) fair(x, y api.Op) bool {
	if x == y {
		return true
	}
	b := c.sessions[0].Book()
	accepted := accept(x.Input, b) == api.OK
	also := accept(y.Input, b) == api.OK
	other := y
	other.Input = x.Input
	return other == x && accepted == also && secret(c.user, b, x)
}

// compareValues compares the released values that the user sees in both sessions.
func (c *comparison) compareValues() {
	var l [2][]api.Shown
	for i, s := range c.sessions {
		l[i] = shown(c.user, s.Valuation().Shown, s.Book().Rules)
	}
	if !slices.Equal(l[0], l[1]) {
		c.run.Fair = false
		return
	}
	c.run.Values += len(l[0])
}

// equal reports whether two replies are equal.
func equal(a, b api.Reply) bool {
	type plain struct {
		code      uint8
		at, count int
		text      string
	}
	rest := func(r api.Reply) plain { return plain{r.Code, r.At, r.Count, r.Text} }
	return rest(a) == rest(b) && slices.Equal(a.Grid, b.Grid) && slices.Equal(a.Events, b.Events) && slices.Equal(a.Releases, b.Releases)
}
